/- fill: the loop -/
import Derived.Test.YtpblbolflnjjnaaWe2
import Derived.Deep.DeepCutAuto
namespace Go.Proofs.Ytpblbolflnjjnaa
open Go.RowKit

theorem srch_sub {caps : List Nat} {fuel i : Nat} {rs : List (List Int)} {left : List Int} {acc : List (List (List Int))} {lo c : Nat} {M : Nat}
    (h : acc.length + ((List.range' (lo : Int).toNat (9 - (lo : Int).toNat)).flatMap (srchStep caps fuel i rs left)).length ≤ M) (hc1 : lo ≤ c) (hc9 : c ≤ 8) (hx : left.getD (c - 1) 0 ≠ 0) :
    (acc ++ (List.range' lo (c - lo)).flatMap (srchStep caps fuel i rs left)).length + (srch caps fuel i (rs.set i (rs.getD i [] ++ [(c : Int)])) (left.set (c - 1) (left.getD (c - 1) 0 - 1))).length ≤ M := by
  rw [Int.toNat_natCast] at h
  have e : List.range' lo (9 - lo) = List.range' lo (c - lo) ++ (c :: List.range' (c + 1) (8 - c)) := by
    rw [show 9 - lo = (c - lo) + (8 - c + 1) by omega, ← List.range'_append_1, show lo + (c - lo) = c by omega, List.range'_succ]
  have e2 : srchStep caps fuel i rs left c = srch caps fuel i (rs.set i (rs.getD i [] ++ [(c : Int)])) (left.set (c - 1) (left.getD (c - 1) 0 - 1)) := if_neg hx
  rw [e, List.flatMap_append, List.flatMap_cons, e2, List.length_append, List.length_append] at h
  rw [List.length_append]
  omega

set_option maxHeartbeats 2000000 in
theorem next_main (f : Fb) (I : List (List (List Int)) → World → (Nat → Prop) → Prop) (fid : Nat) (fcap : Array Value) (hv : Visit f I fid fcap)
    (hcl : f.caps.length = f.gs.length) (hvo : Ints f.w0 f.vo (f.caps.map (fun (c : Nat) => (c : Int)))) (hcaps : ∀ c ∈ f.caps, c ≤ 100) (fuel : Nat)
    (rs : List (List Int)) (left : List Int) (acc : List (List (List Int))) (w : World) (fp : Nat → Prop) (hs : FillSt f w rs left) (hI : I acc w fp) (hd : ∀ k, fp k → ¬ f.mem k)
    (i : Nat) (hi : i < f.gs.length) (hn : f.gs.length ≤ 100) (hlt : (rs.getD i []).length < f.caps.getD i 0)
    (hM : acc.length + (srch f.caps (fuel + 1) i rs left).length ≤ 16777216)
    (ih : ∀ c acc' w' fp', 1 ≤ c → c ≤ 8 → left.getD (c - 1) 0 ≠ 0 → FillSt f w' (rs.set i (rs.getD i [] ++ [(c : Int)])) (left.set (c - 1) (left.getD (c - 1) 0 - 1)) → I acc' w' fp' → (∀ k, fp' k → ¬ f.mem k) →
      acc'.length + (srch f.caps fuel i (rs.set i (rs.getD i [] ++ [(c : Int)])) (left.set (c - 1) (left.getD (c - 1) 0 - 1))).length ≤ 16777216 →
      Calls Try.prog 106 (#[.int .i64 i] ++ f.caught) w' (NextPost f I (rs.set i (rs.getD i [] ++ [(c : Int)])) (left.set (c - 1) (left.getD (c - 1) 0 - 1))
        (acc' ++ srch f.caps fuel i (rs.set i (rs.getD i [] ++ [(c : Int)])) (left.set (c - 1) (left.getD (c - 1) 0 - 1))) w' fp')) :
    Calls Try.prog 106 (#[.int .i64 i] ++ f.caught) w (NextPost f I rs left (acc ++ srch f.caps (fuel + 1) i rs left) w fp) := by
  have hvo' := hvo.below hs.hbel (Nat.le_refl _)
  obtain ⟨ao, cap, he, h1, h2, hc⟩ := hvo'.open
  simp only [List.length_map] at he h1 h2
  obtain ⟨b, o, rfl, hck⟩ := hc i (by simp; omega)
  have e0 : (List.map (fun (c : Nat) => (c : Int)) f.caps).getD i 0 = (f.caps.getD i 0 : Nat) := by
    have : i < f.caps.length := by omega
    simp [List.getD, this]
  rw [e0] at hck
  have hrows := hs.rows hn hcaps
  have cO := cell_of_one hs.hO
  have cR := cell_of_one hs.hR
  have cN := cell_of_one hs.hN
  obtain ⟨cRow, _⟩ := hs.rowCell hi
  rw [he] at cO
  have hcap100 : f.caps.getD i 0 ≤ 100 := hcaps _ (by have : i < f.caps.length := by omega
                                                      simp [List.getD, this])
  have esr : srch f.caps (fuel + 1) i rs left = (List.range' (leastS rs i (rs.getD i []).length).toNat (9 - (leastS rs i (rs.getD i []).length).toNat)).flatMap (srchStep f.caps fuel i rs left) := by
    simp only [srch]
    rw [if_neg (by omega), if_neg (by omega)]
    rfl
  rw [esr] at hM ⊢
  have HMM := hidIt hM
  clear hM
  have hleast := least_any f.rowsVal rs i (rs.getD i []).length w hrows (by omega) (by omega) (by omega) (by omega) hs.hnum
  have HLe := hidIt hleast
  have hlb := leastS_bd hs.hnum (i : Int) ((rs.getD i []).length : Int)
  have HS := hidIt hs
  have HI := hidIt hI
  have HD := hidIt hd
  have IH := hidIt ih
  have HV := hidIt hv
  have hrl := hs.hrs
  clear hvo hvo' hc e0 esr hleast ih hrows hs hd hI hv
  obtain ⟨len, hlen⟩ : ∃ len, len = (rs.getD i []).length := ⟨_, rfl⟩
  have HLen := hidIt hlen
  unfold Fb.rowVal at cRow
  rw [← hlen] at cRow hlt hlb HLe ⊢
  clear hlen
  obtain ⟨lo, hlo⟩ := Int.eq_ofNat_of_zero_le (show 0 ≤ leastS rs i len by omega)
  rw [hlo] at HLe hlb ⊢
  have HLo := hidIt hlo
  clear hlo
  unfold Fb.rowsVal at cR HLe
  have HI0 : Hid (LoopInv f I fuel i rs left acc w fp lo lo w) := ⟨fp, HS.out, by simpa using HI.out, HD.out, Mod.refl _ _, fun k h => .inl h⟩
  clear HI HD hrl
  have hne : ((i : Int) == (f.gs.length : Int)) = false := by simp; omega
  obtain ⟨capi, hcapi⟩ : ∃ capi, capi = f.caps.getD i 0 := ⟨_, rfl⟩
  obtain ⟨g, hg⟩ : ∃ g, g = f.gs.getD i 0 := ⟨_, rfl⟩
  rw [← hcapi] at hck cRow hlt hcap100
  rw [← hg] at cRow
  have HG := hidIt hg
  clear hg
  have HCap := hidIt hcapi
  clear hcapi
  have hne2 : ((len : Int) == (capi : Int)) = false := by simp; omega
  rw [hcl] at cO h1 h2
  have HCL := hidIt hcl
  have HE := hidIt he
  clear hcl he
  unfold Fb.caught pt
  go_enter Try.func106, Try.ntmps106
  go_wp2_with fail
  refine HLe.out.mono ?_
  rintro e w' ⟨rfl, rfl⟩
  clear HLe
  go_wp2
  go_loopw [8] (fun nv wr => ∃ c : Nat, lo ≤ c ∧ c ≤ 9 ∧ nv = .int .i64 c ∧ LoopInv f I fuel i rs left acc w fp lo c wr) (fun nv _ => 9 - (intOf nv).toNat)
  case atStart => exact ⟨lo, Nat.le_refl _, by omega, rfl, HI0.out⟩
  case round =>
    clear HI0 cO cR cN cRow hck
    obtain ⟨c, hc1, hc2, rfl, hinv⟩ := hrel
    by_cases hc9 : c ≤ 8
    · obtain ⟨fp', hs', hI', hd', hm', hf'⟩ := hinv
      obtain ⟨cL, fL⟩ := hs'.leftCell (k := c - 1) (by omega)
      have hix : ((c : Int) - 1).toNat = c - 1 := by omega
      obtain ⟨x, hx⟩ : ∃ x, x = left.getD (c - 1) 0 := ⟨_, rfl⟩
      have hxb := list_getD_bd hs'.hle (c - 1)
      rw [← hx] at cL hxb
      by_cases hx0 : x = 0
      · have HX := hidIt hx
        subst hx0
        have HF : Hid (LoopInv f I fuel i rs left acc w fp lo (c + 1) wr) := by
          refine ⟨fp', hs', ?_, hd', hm', hf'⟩
          have e : srchStep f.caps fuel i rs left c = [] := if_pos hx.symm
          rw [range_step hc1, List.flatMap_append, List.flatMap_cons, e, List.flatMap_nil, List.append_nil, List.append_nil]
          exact hI'
        clear hs' hI' hd' hm' hf' hx
        go_wp2
        go_roundw
        case rel => exact ⟨c + 1, by omega, by omega, by go_num, HF.out⟩
        case measure => simp [intOf]; omega
      · have hxne : (x == 0) = false := by simp [hx0]
        have hs2 := hs'.setLeft (c - 1) (x - 1) (by omega)
        have HS2 := hidIt hs2
        clear hs2
        have HS' := hidIt hs'
        clear hs'
        have HX := hidIt hx
        have hle8 : decide ((c : Int) ≤ 8) = true := by simp; omega
        clear hx
        go_upto_region 10 with (fail)
        generalize hw3 : wr.setCell ⟨f.bL, c - 1, none⟩ (Value.int .i64 (x - 1)) = w3
        rw [hw3] at HS2
        have HM3 : Hid (Mod f.mem wr w3) := by
          rw [← hw3]
          exact (Mod.refl _ _).setCell (.inl (.inr (.inr (.inr (.inr (.inl rfl)))))) _
        clear hw3 cL fL
        have cR3 := cell_of_one HS2.out.hR
        unfold Fb.rowsVal at cR3
        obtain ⟨cRow3, fRow3⟩ := HS2.out.rowCell hi
        unfold Fb.rowVal at cRow3
        rw [← HG.out, ← HCap.out, ← HLen.out] at cRow3
        have hsp : (w3.cell? ⟨g, len, none⟩).isSome = true ∧ w3.frozen? ⟨g, len, none⟩ = false := by
          rw [HG.out]; exact HS2.out.spare hi (by rw [← HCap.out]; exact hlt)
        have HSP := hidIt (spareOne hsp (.int .i64 c) (.cells #[.int .i64 c] 3))
        clear hsp
        obtain ⟨i0, hi0, hz0, hz1, hz2⟩ := info_parts Try.info3
        obtain ⟨⟨cW, fW⟩, hpush, hmodp⟩ := HS2.out.push hi (c := (c : Int)) (by omega) HG.out HLen.out HCap.out hlt (.cells #[.int .i64 c] 3)
        have cRW := HS2.out.pushR hi (c : Int) (len := len) HG.out (.cells #[.int .i64 c] 3)
        unfold Fb.rowsVal at cRW
        have hrlt : f.rb < w3.heap.size := lt_of_block HS2.out.hrb
        have hRlt : f.bR < w3.heap.size := lt_of_block HS2.out.hR
        have HP := hidIt hpush
        have HMP := hidIt hmodp
        clear hpush hmodp
        obtain ⟨w4, hw4⟩ : ∃ w4, w4 = (((w3.alloc (Obj.cells #[Value.int IntKind.i64 (c : Int)] 3)).drew.setCells g len [Value.int IntKind.i64 (c : Int)]).setCell { block := f.rb, off := i } (Value.slice (some { block := g, off := 0 }) (len + 1) capi)) := ⟨_, rfl⟩
        rw [← hw4] at HP HMP
        have HW4 := hidIt hw4
        clear hw4
        go_cut [50] (fun _ wx => wx = w4)
        case first =>
          go_region_law (refine step_append_room rfl (.tmp 55) (.tmp 57) 22 rfl 3 i0 1 Try.underlying22 hi0 hz1 g 0 len capi rfl ⟨w3.heap.size, 0, none⟩ 1 1 [.int .i64 c] rfl rfl (newOne _ _ _) (oneInt _) (by omega) HSP.out ?_)
          all_goals (go_wp2_with fail; go_meet; exact HW4.out.symm)
        case rest =>
          subst hcut
          clear cRW hrlt hRlt HSP hi0 hz0 hz1 hz2 cW fW cR3 cRow3 fRow3 HW4
          have cN4 := cell_of_one HP.out.hN
          unfold Fb.caught pt at cN4
          go_upto_region 11 with (fail)
          go_wp2_with fail
          refine (IH.out c _ _ fp' (by omega) hc9 (by rw [← HX.out]; exact hx0) (by rw [← HX.out]; exact HP.out) (HV.out.keeps _ _ _ _ hI' ?ka ?kb) hd' ?kc).mono ?_
          case ka =>
            intro k hk
            have hlt' := (HV.out.fits _ _ _ hI' k hk).2
            exact (HMP.out.block k (Nat.lt_of_lt_of_le hlt' HM3.out.size) (hd' k hk)).trans (HM3.out.block k hlt' (hd' k hk))
          case kb => exact Nat.le_trans HM3.out.size HMP.out.size
          case kc =>
            have h := HMM.out
            rw [HLen.out] at HLo
            rw [HLo.out] at h
            exact srch_sub h hc1 hc9 (by rw [← HX.out]; exact hx0)
          rintro e w5 ⟨rfl, fp5, hs5, hI5, hd5, hm5, hf5⟩
          have HS5 := hidIt hs5
          have HI5 := hidIt hI5
          have HD5 := hidIt hd5
          have HM5 := hidIt hm5
          have HF5 := hidIt hf5
          have cR5 := cell_of_one hs5.hR
          unfold Fb.rowsVal at cR5
          obtain ⟨cRow5, fRow5⟩ := hs5.rowCell hi
          have erow : (rs.set i (rs.getD i [] ++ [(c : Int)])).getD i [] = rs.getD i [] ++ [(c : Int)] := by rw [getD_set _ _ _ _ _ (by rw [HS.out.hrs]; exact hi), if_pos rfl]
          unfold Fb.rowVal at cRow5
          rw [erow, ← HG.out, ← HCap.out, List.length_append, ← HLen.out] at cRow5
          obtain ⟨hs6, hm6⟩ := hs5.pop hi (rs.getD i []) (c : Int) erow HG.out HLen.out HCap.out
          have HS6 := hidIt hs6
          have HM6 := hidIt hm6
          clear hs5 hI5 hd5 hm5 hf5 erow hs6 hm6 cN4
          go_upto_region 12 with (fail)
          obtain ⟨w6, hw6⟩ : ∃ w6, w6 = w5.drew.setCell ⟨f.rb, i, none⟩ (.slice (some ⟨g, 0, none⟩) len capi) := ⟨_, rfl⟩
          rw [← hw6] at HS6 HM6
          have HW6 := hidIt hw6
          clear hw6
          go_cut [63] (fun _ wx => wx = w6)
          case first =>
            go_region
            all_goals (go_wp2_with fail; go_meet; exact HW6.out.symm)
          case rest =>
            subst hcut
            clear cRow5 fRow5 cR5 HW6
            obtain ⟨cL7, fL7⟩ := HS6.out.leftCell (k := c - 1) (by omega)
            rw [getD_set _ _ _ _ _ (by rw [HS.out.hll]; omega), if_pos rfl, ← HX.out] at cL7
            have hs7 := HS6.out.setLeft (c - 1) x hxb
            have hm7 : Mod f.mem wc (wc.setCell ⟨f.bL, c - 1, none⟩ (.int .i64 x)) := (Mod.refl _ _).setCell (.inl (.inr (.inr (.inr (.inr (.inl rfl)))))) _
            have er : ((rs.set i (rs.getD i [] ++ [(c : Int)])).set i (rs.getD i [])) = rs := by
              rw [List.set_set]
              exact List.set_getElem_self' _ _ (by rw [HS.out.hrs]; exact hi)
            have el : ((left.set (c - 1) (left.getD (c - 1) 0 - 1)).set (c - 1) x) = left := by
              rw [List.set_set, HX.out]
              exact List.set_getElem_self'' _ _ (by rw [HS.out.hll]; omega)
            rw [er, el] at hs7
            have HF : Hid (LoopInv f I fuel i rs left acc w fp lo (c + 1) (wc.setCell ⟨f.bL, c - 1, none⟩ (.int .i64 x))) := by
              have hm57 : Mod f.mem w5 (wc.setCell ⟨f.bL, c - 1, none⟩ (.int .i64 x)) := HM6.out.trans hm7 fun k hk => .inl hk
              refine ⟨fp5, hs7, ?_, HD5.out, ?_, ?_⟩
              · have e : srchStep f.caps fuel i rs left c = srch f.caps fuel i (rs.set i (rs.getD i [] ++ [(c : Int)])) (left.set (c - 1) (left.getD (c - 1) 0 - 1)) := if_neg (by rw [← HX.out]; exact hx0)
                rw [range_step hc1, List.flatMap_append, List.flatMap_cons, e, List.flatMap_nil, List.append_nil, ← List.append_assoc]
                exact HV.out.keeps _ _ _ _ HI5.out (fun k hk => hm57.block k (HV.out.fits _ _ _ HI5.out k hk).2 (HD5.out k hk)) hm57.size
              · have m1 : Mod (fun k => f.mem k ∨ fp k) w w3 := hm'.trans HM3.out fun k hk => .inl (.inl hk)
                have m2 := m1.trans HMP.out fun k hk => .inl (.inl hk)
                have m3 := m2.trans HM5.out fun k hk => hk.elim (fun h => .inl (.inl h)) fun h => (hf' k h).elim (fun h => .inl (.inr h)) .inr
                exact m3.trans hm57 fun k hk => .inl (.inl hk)
              · intro k hk
                rcases HF5.out k hk with h | h
                · exact hf' k h
                · exact .inr (Nat.le_trans (Nat.le_trans hm'.size (Nat.le_trans HM3.out.size HMP.out.size)) h)
            clear hs7 hm7 er el HS6 HM6 HI5 HD5 HM5 HF5 HP HMP HM3 HS2 hI' hd' hm' hf' IH HS'
            go_wp2
            go_roundw
            case rel => exact ⟨c + 1, by omega, by omega, by go_num, HF.out⟩
            case measure => simp [intOf]; omega
    · obtain rfl : c = 9 := by omega
      have HQ := hidIt hinv
      clear hinv
      have hd9 : decide (((9 : Nat) : Int) ≤ 8) = false := by decide
      go_wp2
      go_end0
      obtain ⟨fp', hs', hI', hd', hm', hf'⟩ := HQ.out
      exact ⟨rfl, fp', hs', hI', hd', hm', hf'⟩
end Go.Proofs.Ytpblbolflnjjnaa
