/- fill: the loop; fill: the recursion closed; fill; tallyOf; fillings, Kostka, Standard; Kostka, Standard; Standard -/
import Derived.Test.YtlnbodpdgebflaaU1
import Derived.Deep.DeepCutAuto
import Derived.Laws.EntriesVeiled
namespace Go.Proofs.Ytlnbodpdgebflaa
open Go.RowKit

theorem srch_sub {caps : List Nat} {fuel i : Nat} {rs : List (List Int)} {left : List Int} {acc : List (List (List Int))} {lo c : Nat} {M : Nat}
    (h : acc.length + ((List.range' (lo : Int).toNat (9 - (lo : Int).toNat)).flatMap (srchStep caps fuel i rs left)).length ≤ M) (hc1 : lo ≤ c) (hc9 : c ≤ 8) (hx : left.getD (c - 1) 0 ≠ 0) :
    (acc ++ (List.range' lo (c - lo)).flatMap (srchStep caps fuel i rs left)).length + (srch caps fuel i (rs.set i (rs.getD i [] ++ [(c : Int)])) (left.set (c - 1) (left.getD (c - 1) 0 - 1))).length ≤ M := by
  rw [Int.toNat_natCast] at h
  have e : List.range' lo (9 - lo) = List.range' lo (c - lo) ++ (c :: List.range' (c + 1) (8 - c)) := by
    rw [show 9 - lo = (c - lo) + (8 - c + 1) by omega, ← List.range'_append_1, show lo + (c - lo) = c by omega, List.range'_succ]
  have e2 : srchStep caps fuel i rs left c = srch caps fuel i (rs.set i (rs.getD i [] ++ [(c : Int)])) (left.set (c - 1) (left.getD (c - 1) 0 - 1)) := if_neg hx
  rw [e, List.flatMap_append, List.flatMap_cons, e2, List.length_append, List.length_append] at h
  rw [List.length_append]
  omega

set_option maxHeartbeats 2000000 in
theorem next_main (f : Fb) (I : List (List (List Int)) → World → (Nat → Prop) → Prop) (fid : Nat) (fcap : Array Value) (hv : Visit f I fid fcap)
    (hcl : f.caps.length = f.gs.length) (hvo : Ints f.w0 f.vo (f.caps.map (fun (c : Nat) => (c : Int)))) (hcaps : ∀ c ∈ f.caps, c ≤ 100) (fuel : Nat)
    (rs : List (List Int)) (left : List Int) (acc : List (List (List Int))) (w : World) (fp : Nat → Prop) (hs : FillSt f w rs left) (hI : I acc w fp) (hd : ∀ k, fp k → ¬ f.mem k)
    (i : Nat) (hi : i < f.gs.length) (hn : f.gs.length ≤ 100) (hlt : (rs.getD i []).length < f.caps.getD i 0)
    (hM : acc.length + (srch f.caps (fuel + 1) i rs left).length ≤ 16777216)
    (ih : ∀ c acc' w' fp', 1 ≤ c → c ≤ 8 → left.getD (c - 1) 0 ≠ 0 → FillSt f w' (rs.set i (rs.getD i [] ++ [(c : Int)])) (left.set (c - 1) (left.getD (c - 1) 0 - 1)) → I acc' w' fp' → (∀ k, fp' k → ¬ f.mem k) →
      acc'.length + (srch f.caps fuel i (rs.set i (rs.getD i [] ++ [(c : Int)])) (left.set (c - 1) (left.getD (c - 1) 0 - 1))).length ≤ 16777216 →
      Calls Try.prog 114 (#[.int .i64 i] ++ f.caught) w' (NextPost f I (rs.set i (rs.getD i [] ++ [(c : Int)])) (left.set (c - 1) (left.getD (c - 1) 0 - 1))
        (acc' ++ srch f.caps fuel i (rs.set i (rs.getD i [] ++ [(c : Int)])) (left.set (c - 1) (left.getD (c - 1) 0 - 1))) w' fp')) :
    Calls Try.prog 114 (#[.int .i64 i] ++ f.caught) w (NextPost f I rs left (acc ++ srch f.caps (fuel + 1) i rs left) w fp) := by
  have hvo' := hvo.below hs.hbel (Nat.le_refl _)
  obtain ⟨ao, cap, he, h1, h2, hc⟩ := hvo'.open
  simp only [List.length_map] at he h1 h2
  obtain ⟨b, o, rfl, hck⟩ := hc i (by simp; omega)
  have e0 : (List.map (fun (c : Nat) => (c : Int)) f.caps).getD i 0 = (f.caps.getD i 0 : Nat) := by
    have : i < f.caps.length := by omega
    simp [List.getD, this]
  rw [e0] at hck
  have hrows := hs.rows hn hcaps
  have cO := cell_of_one hs.hO
  have cR := cell_of_one hs.hR
  have cN := cell_of_one hs.hN
  obtain ⟨cRow, _⟩ := hs.rowCell hi
  rw [he] at cO
  have hcap100 : f.caps.getD i 0 ≤ 100 := hcaps _ (by have : i < f.caps.length := by omega
                                                      simp [List.getD, this])
  have esr : srch f.caps (fuel + 1) i rs left = (List.range' (leastS rs i (rs.getD i []).length).toNat (9 - (leastS rs i (rs.getD i []).length).toNat)).flatMap (srchStep f.caps fuel i rs left) := by
    simp only [srch]
    rw [if_neg (by omega), if_neg (by omega)]
    rfl
  rw [esr] at hM ⊢
  have HMM := hidIt hM
  clear hM
  have hleast := least_any f.rowsVal rs i (rs.getD i []).length w hrows (by omega) (by omega) (by omega) (by omega) hs.hnum
  have HLe := hidIt hleast
  have hlb := leastS_bd hs.hnum (i : Int) ((rs.getD i []).length : Int)
  have HS := hidIt hs
  have HI := hidIt hI
  have HD := hidIt hd
  have IH := hidIt ih
  have HV := hidIt hv
  have hrl := hs.hrs
  clear hvo hvo' hc e0 esr hleast ih hrows hs hd hI hv
  obtain ⟨len, hlen⟩ : ∃ len, len = (rs.getD i []).length := ⟨_, rfl⟩
  have HLen := hidIt hlen
  unfold Fb.rowVal at cRow
  rw [← hlen] at cRow hlt hlb HLe ⊢
  clear hlen
  obtain ⟨lo, hlo⟩ := Int.eq_ofNat_of_zero_le (show 0 ≤ leastS rs i len by omega)
  rw [hlo] at HLe hlb ⊢
  have HLo := hidIt hlo
  clear hlo
  unfold Fb.rowsVal at cR HLe
  have HI0 : Hid (LoopInv f I fuel i rs left acc w fp lo lo w) := ⟨fp, HS.out, by simpa using HI.out, HD.out, Mod.refl _ _, fun k h => .inl h⟩
  clear HI HD hrl
  have hne : ((i : Int) == (f.gs.length : Int)) = false := by simp; omega
  obtain ⟨capi, hcapi⟩ : ∃ capi, capi = f.caps.getD i 0 := ⟨_, rfl⟩
  obtain ⟨g, hg⟩ : ∃ g, g = f.gs.getD i 0 := ⟨_, rfl⟩
  rw [← hcapi] at hck cRow hlt hcap100
  rw [← hg] at cRow
  have HG := hidIt hg
  clear hg
  have HCap := hidIt hcapi
  clear hcapi
  have hne2 : ((len : Int) == (capi : Int)) = false := by simp; omega
  rw [hcl] at cO h1 h2
  have HCL := hidIt hcl
  have HE := hidIt he
  clear hcl he
  unfold Fb.caught ptS
  go_enter Try.func114, Try.ntmps114
  go_wp2_with fail
  refine HLe.out.mono ?_
  rintro e w' ⟨rfl, rfl⟩
  clear HLe
  go_wp2
  go_loopw [8] (fun nv wr => ∃ c : Nat, lo ≤ c ∧ c ≤ 9 ∧ nv = .int .i64 c ∧ LoopInv f I fuel i rs left acc w fp lo c wr) (fun nv _ => 9 - (intOf nv).toNat)
  case atStart => exact ⟨lo, Nat.le_refl _, by omega, rfl, HI0.out⟩
  case round =>
    clear HI0 cO cR cN cRow hck
    obtain ⟨c, hc1, hc2, rfl, hinv⟩ := hrel
    by_cases hc9 : c ≤ 8
    · obtain ⟨fp', hs', hI', hd', hm', hf'⟩ := hinv
      obtain ⟨cL, fL⟩ := hs'.leftCell (k := c - 1) (by omega)
      have hix : ((c : Int) - 1).toNat = c - 1 := by omega
      obtain ⟨x, hx⟩ : ∃ x, x = left.getD (c - 1) 0 := ⟨_, rfl⟩
      have hxb := list_getD_bd hs'.hle (c - 1)
      rw [← hx] at cL hxb
      by_cases hx0 : x = 0
      · have HX := hidIt hx
        subst hx0
        have HF : Hid (LoopInv f I fuel i rs left acc w fp lo (c + 1) wr) := by
          refine ⟨fp', hs', ?_, hd', hm', hf'⟩
          have e : srchStep f.caps fuel i rs left c = [] := if_pos hx.symm
          rw [range_step hc1, List.flatMap_append, List.flatMap_cons, e, List.flatMap_nil, List.append_nil, List.append_nil]
          exact hI'
        clear hs' hI' hd' hm' hf' hx
        go_wp2
        go_roundw
        case rel => exact ⟨c + 1, by omega, by omega, by go_num, HF.out⟩
        case measure => simp [intOf]; omega
      · have hxne : (x == 0) = false := by simp [hx0]
        have hs2 := hs'.setLeft (c - 1) (x - 1) (by omega)
        have HS2 := hidIt hs2
        clear hs2
        have HS' := hidIt hs'
        clear hs'
        have HX := hidIt hx
        have hle8 : decide ((c : Int) ≤ 8) = true := by simp; omega
        clear hx
        go_upto_region 10 with (fail)
        generalize hw3 : wr.setCell ⟨f.bL, c - 1, none⟩ (Value.int .i64 (x - 1)) = w3
        rw [hw3] at HS2
        have HM3 : Hid (Mod f.mem wr w3) := by
          rw [← hw3]
          exact (Mod.refl _ _).setCell (.inl (.inr (.inr (.inr (.inr (.inl rfl)))))) _
        clear hw3 cL fL
        have cR3 := cell_of_one HS2.out.hR
        unfold Fb.rowsVal at cR3
        obtain ⟨cRow3, fRow3⟩ := HS2.out.rowCell hi
        unfold Fb.rowVal at cRow3
        rw [← HG.out, ← HCap.out, ← HLen.out] at cRow3
        have hsp : (w3.cell? ⟨g, len, none⟩).isSome = true ∧ w3.frozen? ⟨g, len, none⟩ = false := by
          rw [HG.out]; exact HS2.out.spare hi (by rw [← HCap.out]; exact hlt)
        have HSP := hidIt (spareOne hsp (.int .i64 c) (.cells #[.int .i64 c] 3))
        clear hsp
        obtain ⟨i0, hi0, hz0, hz1, hz2⟩ := info_parts Try.info3
        obtain ⟨⟨cW, fW⟩, hpush, hmodp⟩ := HS2.out.push hi (c := (c : Int)) (by omega) HG.out HLen.out HCap.out hlt (.cells #[.int .i64 c] 3)
        have cRW := HS2.out.pushR hi (c : Int) (len := len) HG.out (.cells #[.int .i64 c] 3)
        unfold Fb.rowsVal at cRW
        have hrlt : f.rb < w3.heap.size := lt_of_block HS2.out.hrb
        have hRlt : f.bR < w3.heap.size := lt_of_block HS2.out.hR
        have HP := hidIt hpush
        have HMP := hidIt hmodp
        clear hpush hmodp
        obtain ⟨w4, hw4⟩ : ∃ w4, w4 = (((w3.alloc (Obj.cells #[Value.int IntKind.i64 (c : Int)] 3)).drew.setCells g len [Value.int IntKind.i64 (c : Int)]).setCell { block := f.rb, off := i } (Value.slice (some { block := g, off := 0 }) (len + 1) capi)) := ⟨_, rfl⟩
        rw [← hw4] at HP HMP
        have HW4 := hidIt hw4
        clear hw4
        go_cut [50] (fun _ wx => wx = w4)
        case first =>
          go_region_law (refine step_append_room rfl (.tmp 55) (.tmp 57) 24 rfl 3 i0 1 Try.underlying24 hi0 hz1 g 0 len capi rfl ⟨w3.heap.size, 0, none⟩ 1 1 [.int .i64 c] rfl rfl (newOne _ _ _) (oneInt _) (by omega) HSP.out ?_)
          all_goals (go_wp2_with fail; go_meet; exact HW4.out.symm)
        case rest =>
          subst hcut
          clear cRW hrlt hRlt HSP hi0 hz0 hz1 hz2 cW fW cR3 cRow3 fRow3 HW4
          have cN4 := cell_of_one HP.out.hN
          unfold Fb.caught ptS at cN4
          go_upto_region 11 with (fail)
          go_wp2_with fail
          refine (IH.out c _ _ fp' (by omega) hc9 (by rw [← HX.out]; exact hx0) (by rw [← HX.out]; exact HP.out) (HV.out.keeps _ _ _ _ hI' ?ka ?kb) hd' ?kc).mono ?_
          case ka =>
            intro k hk
            have hlt' := (HV.out.fits _ _ _ hI' k hk).2
            exact (HMP.out.block k (Nat.lt_of_lt_of_le hlt' HM3.out.size) (hd' k hk)).trans (HM3.out.block k hlt' (hd' k hk))
          case kb => exact Nat.le_trans HM3.out.size HMP.out.size
          case kc =>
            have h := HMM.out
            rw [HLen.out] at HLo
            rw [HLo.out] at h
            exact srch_sub h hc1 hc9 (by rw [← HX.out]; exact hx0)
          rintro e w5 ⟨rfl, fp5, hs5, hI5, hd5, hm5, hf5⟩
          have HS5 := hidIt hs5
          have HI5 := hidIt hI5
          have HD5 := hidIt hd5
          have HM5 := hidIt hm5
          have HF5 := hidIt hf5
          have cR5 := cell_of_one hs5.hR
          unfold Fb.rowsVal at cR5
          obtain ⟨cRow5, fRow5⟩ := hs5.rowCell hi
          have erow : (rs.set i (rs.getD i [] ++ [(c : Int)])).getD i [] = rs.getD i [] ++ [(c : Int)] := by rw [getD_set _ _ _ _ _ (by rw [HS.out.hrs]; exact hi), if_pos rfl]
          unfold Fb.rowVal at cRow5
          rw [erow, ← HG.out, ← HCap.out, List.length_append, ← HLen.out] at cRow5
          obtain ⟨hs6, hm6⟩ := hs5.pop hi (rs.getD i []) (c : Int) erow HG.out HLen.out HCap.out
          have HS6 := hidIt hs6
          have HM6 := hidIt hm6
          clear hs5 hI5 hd5 hm5 hf5 erow hs6 hm6 cN4
          go_upto_region 12 with (fail)
          obtain ⟨w6, hw6⟩ : ∃ w6, w6 = w5.drew.setCell ⟨f.rb, i, none⟩ (.slice (some ⟨g, 0, none⟩) len capi) := ⟨_, rfl⟩
          rw [← hw6] at HS6 HM6
          have HW6 := hidIt hw6
          clear hw6
          go_cut [63] (fun _ wx => wx = w6)
          case first =>
            go_region
            all_goals (go_wp2_with fail; go_meet; exact HW6.out.symm)
          case rest =>
            subst hcut
            clear cRow5 fRow5 cR5 HW6
            obtain ⟨cL7, fL7⟩ := HS6.out.leftCell (k := c - 1) (by omega)
            rw [getD_set _ _ _ _ _ (by rw [HS.out.hll]; omega), if_pos rfl, ← HX.out] at cL7
            have hs7 := HS6.out.setLeft (c - 1) x hxb
            have hm7 : Mod f.mem wc (wc.setCell ⟨f.bL, c - 1, none⟩ (.int .i64 x)) := (Mod.refl _ _).setCell (.inl (.inr (.inr (.inr (.inr (.inl rfl)))))) _
            have er : ((rs.set i (rs.getD i [] ++ [(c : Int)])).set i (rs.getD i [])) = rs := by
              rw [List.set_set]
              exact List.set_getElem_self' _ _ (by rw [HS.out.hrs]; exact hi)
            have el : ((left.set (c - 1) (left.getD (c - 1) 0 - 1)).set (c - 1) x) = left := by
              rw [List.set_set, HX.out]
              exact List.set_getElem_self'' _ _ (by rw [HS.out.hll]; omega)
            rw [er, el] at hs7
            have HF : Hid (LoopInv f I fuel i rs left acc w fp lo (c + 1) (wc.setCell ⟨f.bL, c - 1, none⟩ (.int .i64 x))) := by
              have hm57 : Mod f.mem w5 (wc.setCell ⟨f.bL, c - 1, none⟩ (.int .i64 x)) := HM6.out.trans hm7 fun k hk => .inl hk
              refine ⟨fp5, hs7, ?_, HD5.out, ?_, ?_⟩
              · have e : srchStep f.caps fuel i rs left c = srch f.caps fuel i (rs.set i (rs.getD i [] ++ [(c : Int)])) (left.set (c - 1) (left.getD (c - 1) 0 - 1)) := if_neg (by rw [← HX.out]; exact hx0)
                rw [range_step hc1, List.flatMap_append, List.flatMap_cons, e, List.flatMap_nil, List.append_nil, ← List.append_assoc]
                exact HV.out.keeps _ _ _ _ HI5.out (fun k hk => hm57.block k (HV.out.fits _ _ _ HI5.out k hk).2 (HD5.out k hk)) hm57.size
              · have m1 : Mod (fun k => f.mem k ∨ fp k) w w3 := hm'.trans HM3.out fun k hk => .inl (.inl hk)
                have m2 := m1.trans HMP.out fun k hk => .inl (.inl hk)
                have m3 := m2.trans HM5.out fun k hk => hk.elim (fun h => .inl (.inl h)) fun h => (hf' k h).elim (fun h => .inl (.inr h)) .inr
                exact m3.trans hm57 fun k hk => .inl (.inl hk)
              · intro k hk
                rcases HF5.out k hk with h | h
                · exact hf' k h
                · exact .inr (Nat.le_trans (Nat.le_trans hm'.size (Nat.le_trans HM3.out.size HMP.out.size)) h)
            clear hs7 hm7 er el HS6 HM6 HI5 HD5 HM5 HF5 HP HMP HM3 HS2 hI' hd' hm' hf' IH HS'
            go_wp2
            go_roundw
            case rel => exact ⟨c + 1, by omega, by omega, by go_num, HF.out⟩
            case measure => simp [intOf]; omega
    · obtain rfl : c = 9 := by omega
      have HQ := hidIt hinv
      clear hinv
      have hd9 : decide (((9 : Nat) : Int) ≤ 8) = false := by decide
      go_wp2
      go_end0
      obtain ⟨fp', hs', hI', hd', hm', hf'⟩ := HQ.out
      exact ⟨rfl, fp', hs', hI', hd', hm', hf'⟩
end Go.Proofs.Ytlnbodpdgebflaa

namespace Go.Proofs.Ytlnbodpdgebflaa
open Go.RowKit

theorem nboxes_le : ∀ (rs : List (List Int)) (caps : List Nat), rs.length = caps.length → (∀ j, j < rs.length → (rs.getD j []).length ≤ caps.getD j 0) → nboxes rs ≤ caps.sum
  | [], [], _, _ => by simp [nboxes]
  | [], _ :: _, h, _ => by simp at h
  | _ :: _, [], h, _ => by simp at h
  | r :: rs, c :: caps, h, hj => by
    have ih := nboxes_le rs caps (by simpa using h) (fun j hlt => by simpa using hj (j + 1) (by simpa using hlt))
    have h0 := hj 0 (by simp)
    simp only [nboxes, List.map_cons, List.sum_cons] at *
    simp at h0
    omega

theorem nboxes_set (rs : List (List Int)) (i : Nat) (c : Int) (hi : i < rs.length) : nboxes (rs.set i (rs.getD i [] ++ [c])) = nboxes rs + 1 := by
  induction rs generalizing i with
  | nil => simp at hi
  | cons r rs ih =>
    cases i with
    | zero => simp [nboxes]; omega
    | succ i =>
      have := ih i (by simpa using hi)
      simp only [nboxes, List.set_cons_succ, List.map_cons, List.sum_cons, List.getD_cons_succ] at *
      omega

theorem FillSt.lens {f : Fb} {w : World} {rs : List (List Int)} {left : List Int} (h : FillSt f w rs left) (i : Nat) (hi : i < f.gs.length) : (rs.getD i []).length ≤ f.caps.getD i 0 := by
  obtain ⟨sp, h1, _⟩ := h.hgs i hi
  omega

def need (f : Fb) (i : Nat) (rs : List (List Int)) : Nat := f.gs.length - i + (f.caps.sum - nboxes rs)

theorem next_any (f : Fb) (I : List (List (List Int)) → World → (Nat → Prop) → Prop) (fid : Nat) (fcap : Array Value) (hv : Visit f I fid fcap)
    (hcl : f.caps.length = f.gs.length) (hvo : Ints f.w0 f.vo (f.caps.map (fun (c : Nat) => (c : Int)))) (hcaps : ∀ c ∈ f.caps, c ≤ 100) (hn : f.gs.length ≤ 100) :
    ∀ (fuel i : Nat) (rs : List (List Int)) (left : List Int) (acc : List (List (List Int))) (w : World) (fp : Nat → Prop), i ≤ f.gs.length → need f i rs < fuel → FillSt f w rs left → I acc w fp → (∀ k, fp k → ¬ f.mem k) → acc.length + (srch f.caps fuel i rs left).length ≤ 16777216 →
      Calls Try.prog 114 (#[.int .i64 i] ++ f.caught) w (NextPost f I rs left (acc ++ srch f.caps fuel i rs left) w fp) := by
  intro fuel
  induction fuel with
  | zero => intro i rs left acc w fp _ h; omega
  | succ fuel ih =>
    intro i rs left acc w fp hi hneed hs hI hd hM
    rcases Nat.lt_or_ge i f.gs.length with hlt | hge
    · have hlen := hs.lens i hlt
      rcases Nat.lt_or_ge (rs.getD i []).length (f.caps.getD i 0) with h | h
      · refine next_main f I fid fcap hv hcl hvo hcaps fuel rs left acc w fp hs hI hd i hlt hn h hM ?_
        intro c acc' w' fp' _ _ _ hs' hI' hd' hM'
        refine ih i _ _ acc' w' fp' hi ?_ hs' hI' hd' hM'
        have e := nboxes_set rs i (c : Int) (by rw [hs.hrs]; exact hlt)
        have hle := nboxes_le _ f.caps (by rw [hs'.hrs, hcl]) (fun j hj => hs'.lens j (by rw [← hs'.hrs]; exact hj))
        unfold need at hneed ⊢
        omega
      · have hfull : (rs.getD i []).length = f.caps.getD i 0 := by omega
        have e : srch f.caps (fuel + 1) i rs left = srch f.caps fuel (i + 1) rs left := by
          simp only [srch]
          rw [if_neg (by omega), if_pos hfull]
        rw [e] at hM ⊢
        refine next_full f _ (fun e w' h => h.1) hcl hvo rs left w hs i hlt hn hfull ?_
        exact_mod_cast ih (i + 1) rs left acc w fp (by omega) (by unfold need at hneed ⊢; omega) hs hI hd hM
    · obtain rfl : i = f.caps.length := by omega
      exact next_done f I fid fcap hv hvo fuel rs left acc w fp hs hI hd (by simp [srch] at hM; omega)
end Go.Proofs.Ytlnbodpdgebflaa

namespace Go.Proofs.Ytlnbodpdgebflaa
open Go.RowKit

/-- the rows with which a search begins: the boxes that are not there. -/
def initRows (caps : List Nat) (inner : List Int) : List (List Int) := (List.range caps.length).map fun i => List.replicate (inner.getD i 0).toNat 0

/-- fill's memory while it makes the rows. -/
structure MakeSt (w0 : World) (f : Fb) (inner : List Int) (left : List Int) (wE : World) (k : Nat) (gs : List Nat) (w : World) : Prop where
  hO : w.heap[f.bO]? = some (.cells #[f.vo] 24 (0, 0))
  hV : w.heap[f.bV]? = some (.cells #[f.fv] 98 (0, 0))
  hR : w.heap[f.bR]? = some (.cells #[.slice (some ⟨f.rb, 0, none⟩) f.caps.length f.caps.length] 33 (0, 0))
  hL : w.heap[f.bL]? = some (.cells (ints left).toArray 113 (0, 0))
  hrb : w.heap[f.rb]? = some (.cells ((List.range k).map (fun i => Value.slice (some ⟨gs.getD i 0, 0, none⟩) (inner.getD i 0).toNat (f.caps.getD i 0)) ++ List.replicate (f.caps.length - k) (Value.slice none 0 0)).toArray 24 (0, 0))
  hgs : ∀ i, i < k → w.heap[gs.getD i 0]? = some (.cells (ints (List.replicate (f.caps.getD i 0) 0)).toArray 3 (0, 0))
  hgl : gs.length = k
  hnd : gs.Nodup
  hge : ∀ g ∈ gs, wE.heap.size ≤ g
  hbel : Below wE.heap.size wE w
  hne : f.bO ≠ f.rb

theorem mk_cellsS (c : Nat) : (madeCells (Value.int .i64 0).cells (c * 1)) = (ints (List.replicate c 0)).toArray := by
  have := toList_madeCells_one (Value.int .i64 0) c
  simp only [Value.cells, Nat.mul_one]
  rw [← Array.toArray_toList (xs := madeCells #[Value.int .i64 0] c), this]
  simp [ints]

theorem run_make34 (n : Nat) (hn : n ≤ 100) (W : World) : (Instr.makeSlice 33 (.int .i64 n) (.int .i64 n)).run Try.prog W = .ok (.slice (some ⟨W.heap.size, 0, none⟩) n n) (W.alloc (.cells (List.replicate n (Value.slice none 0 0)).toArray 24)) := by
  obtain ⟨i22, hi22, hz0, hz1, hz2⟩ := info_parts Try.info24
  have h := run_make (P := Try.prog) W 33 24 i22 (.slice none 0 0) Try.underlying33 hi22 hz0 .i64 .i64 (n : Int) (n : Int) (by omega) (Int.le_refl _) (by rw [hz2]; omega) (by omega)
  rw [h, hz1]
  have e := toList_madeCells_one (Value.slice none 0 0) n
  simp only [Value.cells, Nat.mul_one, Int.toNat_natCast]
  rw [← Array.toArray_toList (xs := madeCells #[Value.slice none 0 0] n), e]

theorem run_make22 (p n : Nat) (hp : p ≤ n) (hn : n ≤ 100) (W : World) : (Instr.makeSlice 24 (.int .i64 p) (.int .i64 n)).run Try.prog W = .ok (.slice (some ⟨W.heap.size, 0, none⟩) p n) (W.alloc (.cells (ints (List.replicate n 0)).toArray 3)) := by
  obtain ⟨i3, hi3, hz0, hz1, hz2⟩ := info_parts Try.info3
  have h := run_make (P := Try.prog) W 24 3 i3 (.int .i64 0) Try.underlying24 hi3 hz0 .i64 .i64 (p : Int) (n : Int) (by omega) (by omega) (by rw [hz2]; omega) (by omega)
  rw [h, hz1]
  simp only [Int.toNat_natCast]
  rw [mk_cellsS]

theorem MakeSt.start (w0 w : World) (f : Fb) (inner left : List Int) (hO : f.bO = w.heap.size) (hL : f.bL = w.heap.size + 1) (hV : f.bV = w.heap.size + 1 + 1) (hrb : f.rb = w.heap.size + 1 + 1 + 1) (hR : f.bR = w.heap.size + 1 + 1 + 1 + 1) :
    MakeSt w0 f inner left w 0 [] (((((w.alloc (Obj.cells #[f.vo] 24)).alloc (Obj.cells (ints left).toArray 113)).alloc (Obj.cells #[f.fv] 98)).alloc (Obj.cells (Array.replicate f.caps.length (Value.slice none 0 0)) 24)).alloc
      (Obj.cells #[Value.slice (some ⟨w.heap.size + 1 + 1 + 1, 0, none⟩) f.caps.length f.caps.length] 33)) := by
  refine { hO := ?_, hV := ?_, hR := ?_, hL := ?_, hrb := ?_, hgs := fun i hi => by omega, hgl := rfl, hnd := List.nodup_nil, hge := fun g hg => by simp at hg, hbel := ?_, hne := by omega }
  · rw [hO]; show (((((w.heap.push _).push _).push _).push _).push _)[_]? = _; simp only [Array.getElem?_push, Array.size_push]; (repeat rw [if_neg (by omega)]); simp
  · rw [hV]; show (((((w.heap.push _).push _).push _).push _).push _)[_]? = _; simp only [Array.getElem?_push, Array.size_push]; (repeat rw [if_neg (by omega)]); simp
  · rw [hR, hrb]; show (((((w.heap.push _).push _).push _).push _).push _)[_]? = _; simp only [Array.getElem?_push, Array.size_push]; (repeat rw [if_neg (by omega)]); simp
  · rw [hL]; show (((((w.heap.push _).push _).push _).push _).push _)[_]? = _; simp only [Array.getElem?_push, Array.size_push]; (repeat rw [if_neg (by omega)]); simp
  · simp only [List.range_zero, List.map_nil, List.nil_append, Nat.sub_zero]; rw [← List.toArray_replicate, hrb]; show (((((w.heap.push _).push _).push _).push _).push _)[_]? = _; simp only [Array.getElem?_push, Array.size_push]; (repeat rw [if_neg (by omega)]); simp
  · exact (((((Below.refl _ _).alloc (by simp) _).alloc (by simp) _).alloc (by simp; omega) _).alloc (by simp; omega) _).alloc (by simp; omega) _

theorem MakeSt.rowCell {w0 : World} {f : Fb} {inner left : List Int} {wE w : World} {k : Nat} {gs : List Nat} (h : MakeSt w0 f inner left wE k gs w) (hk : k < f.caps.length) :
    w.cell? ⟨f.rb, k, none⟩ = some (.slice none 0 0) ∧ w.frozen? ⟨f.rb, k, none⟩ = false := by
  simp only [World.cell?, World.frozen?, h.hrb]
  constructor
  · simp only [Option.isSome_none, Bool.false_eq_true, if_false, List.getElem?_toArray]
    rw [List.getElem?_append_right (by simp), List.length_map, List.length_range, List.getElem?_replicate, if_pos (by omega)]
  · simp

theorem getD_snoc_last {l : List Nat} {x d : Nat} {k : Nat} (h : l.length = k) : (l ++ [x]).getD k d = x := by subst h; simp
theorem getD_snoc_lt {l : List Nat} {x d : Nat} {k : Nat} (h : k < l.length) : (l ++ [x]).getD k d = l.getD k d := by rw [List.getD, List.getD, List.getElem?_append_left h]

theorem MakeSt.step {w0 : World} {f : Fb} {inner left : List Int} {wE w : World} {k : Nat} {gs : List Nat} (h : MakeSt w0 f inner left wE k gs w) (hk : k < f.caps.length) {p : Nat} (hp : p = (inner.getD k 0).toNat) {c : Nat} (hc : c = f.caps.getD k 0) (hrbE : wE.heap.size ≤ f.rb) :
    MakeSt w0 f inner left wE (k + 1) (gs ++ [w.heap.size]) ((w.alloc (.cells (ints (List.replicate c 0)).toArray 3)).drew.setCell ⟨f.rb, k, none⟩ (.slice (some ⟨w.heap.size, 0, none⟩) p c)) := by
  have ha : ∀ b o, w.heap[b]? = some o → (w.alloc (.cells (ints (List.replicate c 0)).toArray 3)).drew.heap[b]? = some o := fun b o hb => (Below.heap_alloc w _ _ (lt_of_block hb)).trans hb
  have key : ∀ b o, w.heap[b]? = some o → b ≠ f.rb → ((w.alloc (.cells (ints (List.replicate c 0)).toArray 3)).drew.setCell ⟨f.rb, k, none⟩ (.slice (some ⟨w.heap.size, 0, none⟩) p c)).heap[b]? = some o := fun b o hb hne => by
    rw [Below.heap_setCell _ _ _ _ hne]; exact ha b o hb
  have hrlt := lt_of_block h.hrb
  have hnew : ((w.alloc (.cells (ints (List.replicate c 0)).toArray 3)).drew.setCell ⟨f.rb, k, none⟩ (.slice (some ⟨w.heap.size, 0, none⟩) p c)).heap[w.heap.size]? = some (.cells (ints (List.replicate c 0)).toArray 3 (0, 0)) := by
    rw [Below.heap_setCell _ _ _ _ (show w.heap.size ≠ f.rb by omega)]
    show (w.heap.push _)[w.heap.size]? = _
    simp
  have hgslt : ∀ g ∈ gs, g < w.heap.size := fun g hg => by
    obtain ⟨j, hj, rfl⟩ := List.mem_iff_getElem.1 hg
    have := h.hgs j (by rw [← h.hgl]; exact hj)
    have e : gs.getD j 0 = gs[j] := by simp [List.getD, hj]
    exact e ▸ lt_of_block this
  refine { hO := key _ _ h.hO h.hne, hV := key _ _ h.hV (types_ne h.hV h.hrb (by decide)), hR := key _ _ h.hR (types_ne h.hR h.hrb (by decide)), hL := key _ _ h.hL (types_ne h.hL h.hrb (by decide)), hrb := ?_, hgs := ?_, hgl := by simp [h.hgl], hnd := ?_, hge := ?_, hbel := ?_, hne := h.hne }
  · rw [heap_set_at (ha _ _ h.hrb)]
    have e1 : ((List.range k).map (fun i => Value.slice (some ⟨gs.getD i 0, 0, none⟩) (inner.getD i 0).toNat (f.caps.getD i 0)) ++ List.replicate (f.caps.length - k) (Value.slice none 0 0)).set k (.slice (some ⟨w.heap.size, 0, none⟩) p c) =
        (List.range (k + 1)).map (fun i => Value.slice (some ⟨(gs ++ [w.heap.size]).getD i 0, 0, none⟩) (inner.getD i 0).toNat (f.caps.getD i 0)) ++ List.replicate (f.caps.length - (k + 1)) (Value.slice none 0 0) := by
      rw [List.set_append_right _ _ (by simp), List.length_map, List.length_range, Nat.sub_self]
      obtain ⟨m, hm⟩ : ∃ m, f.caps.length - k = m + 1 := ⟨f.caps.length - k - 1, by omega⟩
      rw [hm, List.replicate_succ, List.set_cons_zero, show f.caps.length - (k + 1) = m by omega, List.range_succ, List.map_append, List.append_assoc]
      congr 1
      · refine List.map_congr_left fun i hi => ?_
        rw [getD_snoc_lt (by rw [h.hgl]; simpa using hi)]
      · simp only [List.map_cons, List.map_nil, List.cons_append, List.nil_append]
        rw [getD_snoc_last h.hgl, ← hp, ← hc]
    simp only [List.setIfInBounds_toArray, e1]
  · intro i hi
    rcases Nat.lt_or_ge i k with hik | hik
    · rw [getD_snoc_lt (by rw [h.hgl]; exact hik)]
      exact key _ _ (h.hgs i hik) (types_ne (h.hgs i hik) h.hrb (by decide))
    · obtain rfl : i = k := by omega
      rw [getD_snoc_last h.hgl, ← hc]
      exact hnew
  · rw [List.nodup_append]
    refine ⟨h.hnd, by simp, ?_⟩
    intro a ha' b hb
    simp at hb
    have := hgslt a ha'
    omega
  · intro g hg
    rcases List.mem_append.1 hg with hg | hg
    · exact h.hge g hg
    · simp at hg; subst hg; exact h.hbel.size
  · exact ((h.hbel.alloc h.hbel.size _).drew).setCell hrbE _

theorem setCell_alloc_swap (w : World) (o : Obj) (n i : Nat) (v : Value) (h : n < w.heap.size) : ((w.setCell ⟨n, i, none⟩ v).alloc o).drew = (w.alloc o).drew.setCell ⟨n, i, none⟩ v := by
  rw [← World.setCell_alloc_past (w := w) o n i v h]
  rfl

theorem initRows_getD (caps : List Nat) (inner : List Int) (i : Nat) (hi : i < caps.length) : (initRows caps inner).getD i [] = List.replicate (inner.getD i 0).toNat 0 := by
  simp [initRows, List.getD, hi]

theorem MakeSt.done {w0 : World} {f : Fb} {inner left : List Int} {wE w : World} {gs : List Nat} (h : MakeSt w0 f inner left wE f.caps.length gs w) (hw0 : f.w0 = w0) (hbN : f.bN = w.heap.size) (hg : f.gs = gs)
    (hll : left.length = 8) (hle : ∀ x ∈ left, 0 ≤ x ∧ x ≤ 8) (hin : ∀ i, i < f.caps.length → 0 ≤ inner.getD i 0 ∧ inner.getD i 0 ≤ f.caps.getD i 0) (hb0 : Below w0.heap.size w0 wE)
    (hge : wE.heap.size ≤ f.bO ∧ wE.heap.size ≤ f.bV ∧ wE.heap.size ≤ f.bR ∧ wE.heap.size ≤ f.bL ∧ wE.heap.size ≤ f.rb) :
    FillSt f (w.alloc (.cells #[.func (.func 114) #[] f.caught] 123)) (initRows f.caps inner) left ∧ ∀ k, f.mem k → wE.heap.size ≤ k := by
  have ha : ∀ b o, w.heap[b]? = some o → (w.alloc (.cells #[.func (.func 114) #[] f.caught] 123)).heap[b]? = some o := fun b o hb => (Below.heap_alloc w _ _ (lt_of_block hb)).trans hb
  have hmem : ∀ k, f.mem k → wE.heap.size ≤ k := by
    rintro k (rfl | rfl | rfl | rfl | rfl | rfl | hk)
    · exact hge.1
    · exact hge.2.1
    · exact hge.2.2.1
    · rw [hbN]; exact h.hbel.size
    · exact hge.2.2.2.1
    · exact hge.2.2.2.2
    · exact h.hge k (hg ▸ hk)
  have hgl : f.gs.length = f.caps.length := by rw [hg, h.hgl]
  refine ⟨{ hO := ha _ _ h.hO, hV := ha _ _ h.hV, hR := ?_, hN := ?_, hL := ha _ _ h.hL, hll := hll, hrb := ?_, hgs := fun i hi => ?_, hrs := by simp [initRows, hgl], hnd := hg ▸ h.hnd, hne := h.hne, hle := hle, hnum := ?_,
            hbel := ?_, hmem := ?_ }, hmem⟩
  · have := ha _ _ h.hR
    rw [Fb.rowsVal, hgl]; exact this
  · rw [hbN]
    show (w.heap.push _)[w.heap.size]? = _
    simp
  · rw [ha _ _ h.hrb, Nat.sub_self, List.replicate_zero, List.append_nil, hgl]
    congr 3
    refine List.map_congr_left fun i hi => ?_
    have hi : i < f.caps.length := by simpa using hi
    simp only [Fb.rowVal]
    rw [initRows_getD _ _ _ hi, List.length_replicate, hg]
  · have hi' : i < f.caps.length := by omega
    have := hin i hi'
    refine ⟨ints (List.replicate (f.caps.getD i 0 - (inner.getD i 0).toNat) 0), ?_, ?_⟩
    · rw [initRows_getD _ _ _ hi', List.length_replicate, ints_length, List.length_replicate]; omega
    · have e := ha _ _ (h.hgs i hi')
      rw [← hg] at e
      rw [e, initRows_getD _ _ _ hi']
      have e2 : ints (List.replicate (inner.getD i 0).toNat 0) ++ ints (List.replicate (f.caps.getD i 0 - (inner.getD i 0).toNat) 0) = ints (List.replicate (f.caps.getD i 0) 0) := by
        simp only [ints]
        rw [← List.map_append, List.replicate_append_replicate, show (inner.getD i 0).toNat + (f.caps.getD i 0 - (inner.getD i 0).toNat) = f.caps.getD i 0 by omega]
      rw [e2]
  · intro xs hxs x hx
    simp only [initRows, List.mem_map] at hxs
    obtain ⟨i, _, rfl⟩ := hxs
    have := List.eq_of_mem_replicate hx
    omega
  · rw [hw0]; exact (hb0.trans (h.hbel.mono hb0.size)).alloc (Nat.le_trans hb0.size h.hbel.size) _
  · intro k hk; rw [hw0]; exact Nat.le_trans hb0.size (hmem k hk)

set_option maxHeartbeats 2000000 in
theorem fill_any (w0 w : World) (hb0 : Below w0.heap.size w0 w) (vo vi fv : Value) (caps : List Nat) (inner : List Int) (left : List Int)
    (hvo : Ints w0 vo (caps.map (fun (c : Nat) => (c : Int)))) (hvi : Ints w0 vi inner) (hcaps : ∀ c ∈ caps, 1 ≤ c ∧ c ≤ 100) (hn : caps.length ≤ 100) (hll : left.length = 8) (hle : ∀ x ∈ left, 0 ≤ x ∧ x ≤ 8)
    (hin : ∀ i, i < caps.length → 0 ≤ inner.getD i 0 ∧ inner.getD i 0 ≤ caps.getD i 0)
    (I : List (List (List Int)) → World → (Nat → Prop) → Prop) (fid : Nat) (fcap : Array Value) (hfv : ∃ ao fn fc, fv = .func ao fn fc)
    (hv : ∀ f : Fb, f.w0 = w0 → f.fv = fv → f.caps.length ≤ 100 → f.gs.length = f.caps.length → (∀ c ∈ f.caps, c ≤ 100) → Visit f I fid fcap) (acc : List (List (List Int))) (fp : Nat → Prop) (hI : I acc w fp) (fuel : Nat) (hfuel : caps.length + caps.sum < fuel) (hM : acc.length + (srch caps fuel 0 (initRows caps inner) left).length ≤ 16777216) :
    Calls Try.prog 108 #[vo, vi, .agg (ints left).toArray, fv] w fun e w' => e = .returned (.tuple #[]) ∧ ∃ fp', I (acc ++ srch caps fuel 0 (initRows caps inner) left) w' fp' ∧ Mod fp w w' ∧ ∀ k, fp' k → fp k ∨ w.heap.size ≤ k := by
  have hvo' := hvo.below hb0 (Nat.le_refl _)
  obtain ⟨ao, cap, he, h1, h2, hc⟩ := hvo'.open
  simp only [List.length_map] at he h1 h2
  obtain ⟨i22, hi22, hz0, hz1, hz2⟩ := info_parts Try.info24
  obtain ⟨fn, fa, fb, rfl⟩ := hfv
  subst he
  have HV := hidIt hv
  have HI := hidIt hI
  have HMM := hidIt hM
  clear hM
  clear hv hI hvo'
  have hmk := run_make34 caps.length hn
  go_enter Try.func108, Try.ntmps108
  go_upto_region 3 with (fail)
  obtain ⟨f0, hf0⟩ : ∃ f0 : Fb, f0 = { bO := w.heap.size, bL := w.heap.size + 1, bV := w.heap.size + 1 + 1, rb := w.heap.size + 1 + 1 + 1, bR := w.heap.size + 1 + 1 + 1 + 1, bN := 0, gs := [], caps := caps, vo := .slice ao caps.length cap, fv := .func fn fa fb, w0 := w0 } := ⟨_, rfl⟩
  have hst := MakeSt.start w0 w f0 inner left (by rw [hf0]) (by rw [hf0]) (by rw [hf0]) (by rw [hf0]) (by rw [hf0])
  have e1 : f0.vo = .slice ao caps.length cap := by rw [hf0]
  have e2 : f0.fv = .func fn fa fb := by rw [hf0]
  have e3 : f0.caps = caps := by rw [hf0]
  rw [e1, e2, e3] at hst
  generalize hW : (((((w.alloc (Obj.cells #[Value.slice ao caps.length cap] 24)).alloc (Obj.cells (ints left).toArray 113)).alloc (Obj.cells #[Value.func fn fa fb] 98)).alloc (Obj.cells (Array.replicate caps.length (Value.slice none 0 0)) 24)).alloc
      (Obj.cells #[Value.slice (some ⟨w.heap.size + 1 + 1 + 1, 0, none⟩) caps.length caps.length] 33)) = w1 at hst ⊢
  clear hW
  have HST := hidIt hst
  have HF0 := hidIt hf0
  have HE1 := hidIt e1
  have HE3 := hidIt e3
  clear hst hf0 e1 e2 e3 hmk
  go_loopw [16] (fun s16 wr => ∃ (k : Nat) (gs : List Nat), k ≤ caps.length ∧ s16 = .int .i64 k ∧ MakeSt w0 f0 inner left w k gs wr) (fun s16 _ => caps.length - (intOf s16).toNat)
  case atStart => exact ⟨0, [], Nat.zero_le _, rfl, HST.out⟩
  case round =>
    obtain ⟨k, gs, hk, rfl, hst⟩ := hrel
    have HS := hidIt hst
    by_cases hlt : k < caps.length
    · have hbw : Below w0.heap.size w0 wr := hb0.trans (hst.hbel.mono hb0.size)
      have hvi' := hvi.below hbw (Nat.le_refl _)
      have hvo' := hvo.below hbw (Nat.le_refl _)
      have cO := cell_of_one hst.hO
      have cR := cell_of_one hst.hR
      obtain ⟨cRow, fRow⟩ := hst.rowCell (by rw [HE3.out]; exact hlt)
      rw [HE1.out] at cO
      rw [HE3.out] at cR
      rw [HF0.out] at cO cR cRow fRow
      simp only at cO cR cRow fRow
      obtain ⟨b, o, rfl, hck⟩ := hc k (by simp; omega)
      have hck' := (hst.hbel.cell (p := ⟨b, o + k, none⟩) (World.block_lt_of_cell? w _ hck)).trans hck
      have e0 : (List.map (fun (c : Nat) => (c : Int)) caps).getD k 0 = (caps.getD k 0 : Nat) := by simp [List.getD, hlt]
      rw [e0] at hck'
      have hik := hin k hlt
      obtain ⟨p, hp⟩ : ∃ p : Nat, p = (inner.getD k 0).toNat := ⟨_, rfl⟩
      have hpi : inner.getD k 0 = (p : Int) := by omega
      obtain ⟨c, hcc⟩ : ∃ c : Nat, c = caps.getD k 0 := ⟨_, rfl⟩
      have hcb := hcaps (caps.getD k 0) (by simp [List.getD, hlt])
      rw [← hcc] at hck' hik hcb
      rw [hpi] at hik
      have hpart := part_any vi inner k wr.drew (hvi'.below (Below.drew (Below.refl _ _)) (Nat.le_refl _))
      rw [hpi] at hpart
      have hstep := hst.step (by rw [HE3.out]; exact hlt) hp (c := c) (by rw [HE3.out]; exact hcc) (by rw [HF0.out]; simp; omega)
      rw [HF0.out] at hstep
      simp only at hstep
      rw [← HF0.out] at hstep
      have hmk := run_make22 p c (by omega) (by omega)
      have hrlt : w.heap.size + 1 + 1 + 1 < wr.heap.size := by have := lt_of_block hst.hrb; rw [HF0.out] at this; exact this
      have hRlt : w.heap.size + 1 + 1 + 1 + 1 < wr.heap.size := by have := lt_of_block hst.hR; rw [HF0.out] at this; exact this
      have hOlt : w.heap.size < wr.heap.size := by omega
      have hblt : b < wr.heap.size := World.block_lt_of_cell? wr _ hck'
      have HPA := hidIt hpart
      have HST2 := hidIt hstep
      clear hst hstep hpart hck hc e0 hbw hvi' hvo' hp hcc hpi
      go_upto_region 5 with (fail)
      go_region_with (go_at_call 113; refine HPA.out.mono ?_; rintro e w' ⟨rfl, rfl⟩)
      all_goals
        clear hmk cO cR cRow fRow hck' HPA
        go_wp2
        go_roundw
        case rel => exact ⟨k + 1, gs ++ [wr.heap.size], by omega, by go_num, by first | exact HST2.out | (rw [setCell_alloc_swap _ _ _ _ _ hrlt]; exact HST2.out)⟩
        case measure => simp [intOf]; omega
    · obtain rfl : k = caps.length := by omega
      obtain ⟨f, hf⟩ : ∃ f : Fb, f = { bO := w.heap.size, bL := w.heap.size + 1, bV := w.heap.size + 1 + 1, rb := w.heap.size + 1 + 1 + 1, bR := w.heap.size + 1 + 1 + 1 + 1, bN := wr.heap.size, gs := gs, caps := caps, vo := .slice ao caps.length cap, fv := .func fn fa fb, w0 := w0 } := ⟨_, rfl⟩
      have hmk : MakeSt w0 f inner left w f.caps.length gs wr := by
        rw [HF0.out] at hst
        rw [hf]
        exact ⟨hst.hO, hst.hV, hst.hR, hst.hL, hst.hrb, hst.hgs, hst.hgl, hst.hnd, hst.hge, hst.hbel, hst.hne⟩
      have HFF := hidIt hf
      have hcaps' : f.caps = caps := by rw [hf]
      have hgl : f.gs.length = f.caps.length := by rw [hcaps', hf]; exact hst.hgl
      obtain ⟨hfs, hmem⟩ := hmk.done (by rw [hf]) (by rw [hf]) (by rw [hf]) hll hle (by rw [hcaps']; exact hin) hb0 (by rw [hf]; simp; omega)
      have hV := HV.out f (by rw [hf]) (by rw [hf]) (by rw [hcaps']; exact hn) hgl (by rw [hcaps']; exact fun c hc => (hcaps c hc).2)
      have hnext := next_any f I fid fcap hV hgl.symm (by rw [hf]; exact hvo) (by rw [hcaps']; exact fun c hc => (hcaps c hc).2) (by rw [hgl, hcaps']; exact hn) fuel 0 (initRows f.caps inner) left acc _ fp (Nat.zero_le _)
        (by unfold need; rw [hgl, hcaps']; omega) hfs (hV.keeps _ _ _ _ HI.out ?k1 ?k2) ?k3 (by rw [hcaps']; exact HMM.out)
      case k1 =>
        intro k hk
        have hkw := (hV.fits _ _ _ HI.out k hk).2
        have hw := hst.hbel.block k hkw
        exact (Below.heap_alloc wr _ k (Nat.lt_of_lt_of_le hkw hst.hbel.size)).trans hw
      case k2 => exact Nat.le_trans hst.hbel.size (by simp)
      case k3 =>
        intro k hk hm
        have := hmem k hm
        have := (hV.fits _ _ _ HI.out k hk).2
        omega
      have HN := hidIt hnext
      have HB := hidIt hst.hbel
      have HMem := hidIt hmem
      have HFits := hidIt (hV.fits _ _ _ HI.out)
      have HC' := hidIt hcaps'
      clear hst hmk hfs hV hnext hgl hcaps' hf hmem hfuel
      have ecall : (#[.int .i64 ((0 : Nat) : Int)] ++ f.caught : Array Value) = #[.int .i64 0, .pointer (some ⟨w.heap.size, 0, none⟩), .pointer (some ⟨w.heap.size + 1 + 1, 0, none⟩), .pointer (some ⟨w.heap.size + 1 + 1 + 1 + 1, 0, none⟩), .pointer (some ⟨wr.heap.size, 0, none⟩), .pointer (some ⟨w.heap.size + 1, 0, none⟩)] := by
        rw [HFF.out]; rfl
      have ecaught : f.caught = #[.pointer (some ⟨w.heap.size, 0, none⟩), .pointer (some ⟨w.heap.size + 1 + 1, 0, none⟩), .pointer (some ⟨w.heap.size + 1 + 1 + 1 + 1, 0, none⟩), .pointer (some ⟨wr.heap.size, 0, none⟩), .pointer (some ⟨w.heap.size + 1, 0, none⟩)] := by
        rw [HFF.out]; rfl
      rw [ecall, ecaught] at HN
      clear ecall ecaught
      go_wp2_with fail
      refine HN.out.mono ?_
      intro e w' hq
      have HQ := hidIt hq
      obtain rfl := hq.1
      clear hq HN
      go_wp2
      go_end0
      obtain ⟨_, fp', _, q2, _, q4, q5⟩ := HQ.out
      rw [HC'.out] at q2
      have m0 : Mod fp w (wr.alloc (.cells #[.func (.func 114) #[] #[.pointer (some ⟨w.heap.size, 0, none⟩), .pointer (some ⟨w.heap.size + 1 + 1, 0, none⟩), .pointer (some ⟨w.heap.size + 1 + 1 + 1 + 1, 0, none⟩), .pointer (some ⟨wr.heap.size, 0, none⟩), .pointer (some ⟨w.heap.size + 1, 0, none⟩)]] 123)) :=
        (Mod.of_below HB.out).alloc _
      refine ⟨rfl, fp', q2, m0.trans q4 fun k hk => hk.elim (fun h => .inr (HMem.out k h)) .inl, fun k hk => (q5 k hk).elim .inl fun h => .inr ?_⟩
      exact Nat.le_trans m0.size h
end Go.Proofs.Ytlnbodpdgebflaa

namespace Go.Proofs.Ytlnbodpdgebflaa
open Go.RowKit

/-- A content as eight numbers. -/
def tallyS (m : List Int) : List Int := (List.range 8).map fun k => m.getD k 0

theorem Try.info113 : (zeroValue 113).run Try.prog = fun w => .ok (.agg #[.int .i64 0, .int .i64 0, .int .i64 0, .int .i64 0, .int .i64 0, .int .i64 0, .int .i64 0, .int .i64 0]) w := by
  funext w; kernel_rfl

def talK (m : List Int) (k : Nat) : List Int := (List.range 8).map fun j => if j < k then m.getD j 0 else 0

theorem talK_zero (m : List Int) : talK m 0 = [0, 0, 0, 0, 0, 0, 0, 0] := rfl
theorem talK_len (m : List Int) (k : Nat) : (talK m k).length = 8 := by simp [talK]
theorem talK_succ (m : List Int) (k : Nat) (_ : k < 8) : talK m (k + 1) = (talK m k).set k (m.getD k 0) := by
  refine List.ext_getElem (by simp [talK]) fun j h1 h2 => ?_
  simp only [talK, List.getElem_map, List.getElem_range, List.getElem_set]
  by_cases e : k = j
  · subst e; rw [if_pos rfl, if_pos (by omega)]
  · rw [if_neg e]
    by_cases e2 : j < k
    · rw [if_pos e2, if_pos (by omega)]
    · rw [if_neg e2, if_neg (by omega)]
theorem talK_all (m : List Int) (k : Nat) (hk : m.length ≤ k) : talK m k = tallyS m := by
  refine List.map_congr_left fun j hj => ?_
  split
  · rfl
  · rw [getD_over (by omega)]

theorem eight {l : List Int} (h : l.length = 8) : ∃ a b c d e f g i, l = [a, b, c, d, e, f, g, i] := by
  match l, h with
  | [a, b, c, d, e, f, g, i], _ => exact ⟨a, b, c, d, e, f, g, i, rfl⟩

set_option maxHeartbeats 1000000 in
theorem tallyOf_any (v : Value) (m : List Int) (w : World) (h : Ints w v m) (hl : m.length ≤ 8) :
    Calls Try.prog 109 #[v] w fun e w' => e = .returned (.agg (ints (tallyS m)).toArray) ∧ Below w.heap.size w w' := by
  obtain ⟨ao, cap, rfl, h1, h2, hc⟩ := h.open
  clear h
  go_enter Try.func109, Try.ntmps109
  go_wp2
  go_loopw [8] (fun s8 wr => ∃ k : Nat, k ≤ m.length ∧ s8 = .int .i64 k ∧ wr.heap[w.heap.size]? = some (.cells (ints [0, 0, 0, 0, 0, 0, 0, 0]).toArray 113 (0, 0)) ∧ wr.heap[w.heap.size + 1]? = some (.cells (ints (talK m k)).toArray 113 (0, 0)) ∧ Below w.heap.size w wr)
    (fun s8 _ => m.length - (intOf s8).toNat)
  case atStart =>
    refine ⟨0, Nat.zero_le _, rfl, ?_, ?_, ((Below.refl _ _).alloc (Nat.le_refl _) _).alloc (by simp) _⟩
    · show ((w.heap.push _).push _)[_]? = _
      simp only [Array.getElem?_push, Array.size_push]; (repeat rw [if_neg (by omega)]); simp [ints]
    · show ((w.heap.push _).push _)[_]? = _
      simp only [Array.getElem?_push, Array.size_push]; simp [ints, talK_zero]
  case round =>
    obtain ⟨k, hk, rfl, hA, hB, hb⟩ := hrel
    have hlen := talK_len m k
    by_cases hlt : k < m.length
    · obtain ⟨b, o, rfl, hck⟩ := hc k hlt
      have hck' := (hb.cell (p := ⟨b, o + k, none⟩) (World.block_lt_of_cell? w _ hck)).trans hck
      clear hck hc
      have cB : wr.cell? ⟨w.heap.size + 1, k, none⟩ = some (.int .i64 ((talK m k).getD k 0)) := by
        simp [World.cell?, hB, ints, show k < (talK m k).length by omega]
      have fB : wr.frozen? ⟨w.heap.size + 1, k, none⟩ = false := by simp [World.frozen?, hB]
      have HR : Hid ((wr.setCell ⟨w.heap.size + 1, k, none⟩ (.int .i64 (m.getD k 0))).heap[w.heap.size]? = some (.cells (ints [0, 0, 0, 0, 0, 0, 0, 0]).toArray 113 (0, 0)) ∧
          (wr.setCell ⟨w.heap.size + 1, k, none⟩ (.int .i64 (m.getD k 0))).heap[w.heap.size + 1]? = some (.cells (ints (talK m (k + 1))).toArray 113 (0, 0)) ∧ Below w.heap.size w (wr.setCell ⟨w.heap.size + 1, k, none⟩ (.int .i64 (m.getD k 0)))) := by
        refine ⟨?_, ?_, hb.setCell (by simp) _⟩
        · rw [Below.heap_setCell _ _ _ _ (by simp)]; exact hA
        · rw [heap_set_at hB, talK_succ m k (by omega)]; simp [ints, List.map_set]
      clear hA hB hb hlen
      have hk8 : k < 8 := by omega
      generalize m.getD k 0 = z at *
      generalize (talK m k).getD k 0 = y at *
      go_wp2
      go_roundw
      case rel => exact ⟨k + 1, by omega, by go_num, HR.out⟩
      case measure => simp [intOf]; omega
    · obtain rfl : k = m.length := by omega
      rw [talK_all m m.length (Nat.le_refl _)] at hB hlen
      obtain ⟨a0, a1, a2, a3, a4, a5, a6, a7, hE⟩ := eight hlen
      rw [hE] at hB
      have HE := hidIt hE
      have HB := hidIt hb
      have c0 : wr.cell? ⟨w.heap.size + 1, 0, none⟩ = some (.int .i64 a0) := by simp [World.cell?, hB, ints]
      have c1 : wr.cell? ⟨w.heap.size + 1, 1, none⟩ = some (.int .i64 a1) := by simp [World.cell?, hB, ints]
      have c2 : wr.cell? ⟨w.heap.size + 1, 2, none⟩ = some (.int .i64 a2) := by simp [World.cell?, hB, ints]
      have c3 : wr.cell? ⟨w.heap.size + 1, 3, none⟩ = some (.int .i64 a3) := by simp [World.cell?, hB, ints]
      have c4 : wr.cell? ⟨w.heap.size + 1, 4, none⟩ = some (.int .i64 a4) := by simp [World.cell?, hB, ints]
      have c5 : wr.cell? ⟨w.heap.size + 1, 5, none⟩ = some (.int .i64 a5) := by simp [World.cell?, hB, ints]
      have c6 : wr.cell? ⟨w.heap.size + 1, 6, none⟩ = some (.int .i64 a6) := by simp [World.cell?, hB, ints]
      have c7 : wr.cell? ⟨w.heap.size + 1, 7, none⟩ = some (.int .i64 a7) := by simp [World.cell?, hB, ints]
      have d0 : wr.cell? ⟨w.heap.size, 0, none⟩ = some (.int .i64 0) := by simp [World.cell?, hA, ints]
      have f0 : wr.frozen? ⟨w.heap.size, 0, none⟩ = false := by simp [World.frozen?, hA]
      have d1 : wr.cell? ⟨w.heap.size, 1, none⟩ = some (.int .i64 0) := by simp [World.cell?, hA, ints]
      have f1 : wr.frozen? ⟨w.heap.size, 1, none⟩ = false := by simp [World.frozen?, hA]
      have d2 : wr.cell? ⟨w.heap.size, 2, none⟩ = some (.int .i64 0) := by simp [World.cell?, hA, ints]
      have f2 : wr.frozen? ⟨w.heap.size, 2, none⟩ = false := by simp [World.frozen?, hA]
      have d3 : wr.cell? ⟨w.heap.size, 3, none⟩ = some (.int .i64 0) := by simp [World.cell?, hA, ints]
      have f3 : wr.frozen? ⟨w.heap.size, 3, none⟩ = false := by simp [World.frozen?, hA]
      have d4 : wr.cell? ⟨w.heap.size, 4, none⟩ = some (.int .i64 0) := by simp [World.cell?, hA, ints]
      have f4 : wr.frozen? ⟨w.heap.size, 4, none⟩ = false := by simp [World.frozen?, hA]
      have d5 : wr.cell? ⟨w.heap.size, 5, none⟩ = some (.int .i64 0) := by simp [World.cell?, hA, ints]
      have f5 : wr.frozen? ⟨w.heap.size, 5, none⟩ = false := by simp [World.frozen?, hA]
      have d6 : wr.cell? ⟨w.heap.size, 6, none⟩ = some (.int .i64 0) := by simp [World.cell?, hA, ints]
      have f6 : wr.frozen? ⟨w.heap.size, 6, none⟩ = false := by simp [World.frozen?, hA]
      have d7 : wr.cell? ⟨w.heap.size, 7, none⟩ = some (.int .i64 0) := by simp [World.cell?, hA, ints]
      have f7 : wr.frozen? ⟨w.heap.size, 7, none⟩ = false := by simp [World.frozen?, hA]
      clear hc hb hlen hE hB hA
      go_wp2
      refine bodyPost_ret (v := .agg #[.int .i64 a0, .int .i64 a1, .int .i64 a2, .int .i64 a3, .int .i64 a4, .int .i64 a5, .int .i64 a6, .int .i64 a7]) (by simp [results, Try.results109, go_sem, d0, d1, d2, d3, d4, d5, d6, d7]) rfl ⟨?_, ?_⟩
      · rw [HE.out]; simp [ints]
      · exact (((((((HB.out.setCell (by simp) _).setCell (by simp) _).setCell (by simp) _).setCell (by simp) _).setCell (by simp) _).setCell (by simp) _).setCell (by simp) _).setCell (by simp) _
end Go.Proofs.Ytlnbodpdgebflaa

namespace Go.Proofs.Ytlnbodpdgebflaa
open Go.RowKit

def capsOf (l : List Int) : List Nat := l.map Int.toNat

/-- All fillings of l with the content m, rising. -/
def fillS (l m : List Int) : List (List (List Int)) := if isum l = isum m then srch (capsOf l) 17 0 (initRows (capsOf l) []) (tallyS m) else []

theorem Shape.bd {l : List Int} (h : Shape l) : ∀ x ∈ l, 1 ≤ x ∧ x ≤ 8 := fun x hx => by
  obtain ⟨k, hk, rfl⟩ := mem_getD hx
  have := h.2.1 k hk
  omega
theorem Content.bd {l : List Int} (h : Content l) : ∀ x ∈ l, 0 ≤ x ∧ x ≤ 8 := fun x hx => by
  obtain ⟨k, hk, rfl⟩ := mem_getD hx
  exact h.2.1 k hk
theorem capsOf_int {l : List Int} (h : ∀ x ∈ l, 0 ≤ x) : (capsOf l).map (fun (c : Nat) => (c : Int)) = l := by
  induction l with
  | nil => rfl
  | cons a t ih =>
    have h1 := h a (by simp)
    have h2 := ih fun x hx => h x (by simp [hx])
    simp only [capsOf, List.map_cons] at *
    rw [h2, show ((a.toNat : Nat) : Int) = a by omega]
theorem capsOf_sum {l : List Int} (h : ∀ x ∈ l, 0 ≤ x) : ((capsOf l).sum : Int) = isum l := by
  induction l with
  | nil => rfl
  | cons a t ih =>
    have h1 := h a (by simp)
    have h2 := ih fun x hx => h x (by simp [hx])
    simp only [capsOf, isum, List.map_cons, List.sum_cons] at *
    omega
theorem tallyS_bd {m : List Int} (h : Content m) : ∀ x ∈ tallyS m, 0 ≤ x ∧ x ≤ 8 := by
  intro x hx
  simp only [tallyS, List.mem_map] at hx
  obtain ⟨k, _, rfl⟩ := hx
  exact list_getD_bd h.bd k

theorem Ints.nilS (w : World) : Ints w (.slice none 0 0) [] := ⟨⟨none, 0, rfl, Nat.le_refl _, Nat.zero_le _, Nat.zero_le _, .inl rfl⟩, fun x hx => by simp at hx⟩

theorem flatMap_len {α β : Type} (l : List α) (g : α → List β) (B : Nat) (h : ∀ x ∈ l, (g x).length ≤ B) : (l.flatMap g).length ≤ l.length * B := by
  induction l with
  | nil => simp
  | cons a t ih =>
    rw [List.flatMap_cons, List.length_append, List.length_cons, Nat.succ_mul]
    have := h a (by simp)
    have := ih fun x hx => h x (by simp [hx])
    omega

theorem leastS_ge (rs : List (List Int)) (i j : Int) : 1 ≤ leastS rs i j := by unfold leastS; omega

theorem srch_len (caps : List Nat) : ∀ (fuel i : Nat) (rs : List (List Int)) (left : List Int), rs.length = caps.length → (∀ j, j < rs.length → (rs.getD j []).length ≤ caps.getD j 0) → i ≤ caps.length →
    (srch caps fuel i rs left).length ≤ 8 ^ (caps.sum - nboxes rs) := by
  intro fuel
  induction fuel with
  | zero => intro i rs left _ _ _; simp [srch]
  | succ fuel ih =>
    intro i rs left hl hj hi
    simp only [srch]
    split
    · exact Nat.one_le_pow _ _ (by omega)
    · split
      · exact ih _ _ _ hl hj (by omega)
      · rename_i h1 h2
        have hlt : i < rs.length := by omega
        have hb := nboxes_le rs caps hl hj
        have hstep : ∀ c : Int, (∀ j, j < (rs.set i (rs.getD i [] ++ [c])).length → ((rs.set i (rs.getD i [] ++ [c])).getD j []).length ≤ caps.getD j 0) := by
          intro c j hjl
          rw [getD_set _ _ _ _ _ hlt]
          split
          · rename_i e; subst e
            have := hj i hlt
            simp only [List.length_append, List.length_cons, List.length_nil]
            omega
          · exact hj j (by simpa using hjl)
        have hn : nboxes rs < caps.sum := by
          have h := nboxes_le _ caps (by simpa using hl) (hstep 0)
          rw [nboxes_set _ _ _ hlt] at h
          omega
        refine Nat.le_trans (flatMap_len _ _ (8 ^ (caps.sum - nboxes rs - 1)) fun n _ => ?_) ?_
        · split
          · exact Nat.zero_le _
          · refine Nat.le_trans (ih i _ _ (by simpa using hl) (hstep _) hi) ?_
            rw [nboxes_set _ _ _ hlt]
            exact Nat.pow_le_pow_right (by omega) (by omega)
        · rw [List.length_range']
          have := leastS_ge rs i (rs.getD i []).length
          have e : caps.sum - nboxes rs = (caps.sum - nboxes rs - 1) + 1 := by omega
          rw [e, Nat.pow_succ, Nat.mul_comm, show caps.sum - nboxes rs - 1 + 1 - 1 = caps.sum - nboxes rs - 1 by omega]
          exact Nat.mul_le_mul_left _ (by omega)

theorem initRows_ok (caps : List Nat) : (initRows caps []).length = caps.length ∧ ∀ j, j < (initRows caps []).length → ((initRows caps []).getD j []).length ≤ caps.getD j 0 := by
  refine ⟨by simp [initRows], fun j hj => ?_⟩
  have hj : j < caps.length := by simpa [initRows] using hj
  rw [initRows_getD _ _ _ hj]
  simp

theorem fillS_len {l m : List Int} (h : Shape l) : (fillS l m).length ≤ 16777216 := by
  unfold fillS
  split
  · refine Nat.le_trans (srch_len _ 17 0 _ _ (initRows_ok _).1 (initRows_ok _).2 (Nat.zero_le _)) ?_
    have h1 := capsOf_sum (l := l) fun x hx => by have := h.bd x hx; omega
    have h2 := h.2.2
    exact Nat.pow_le_pow_right (n := 8) (by omega) (show _ ≤ 8 by omega)
  · simp

/-- What a call of fillings leaves. -/
def FillingsPost (I : List (List (List Int)) → World → (Nat → Prop) → Prop) (l m : List Int) (acc : List (List (List Int))) (w : World) (fp : Nat → Prop) (e : Ending) (w' : World) : Prop :=
  if shpB l && coB m then e = .returned (.int .i64 0) ∧ ∃ fp', I (acc ++ fillS l m) w' fp' ∧ Mod fp w w' ∧ ∀ k, fp' k → fp k ∨ w.heap.size ≤ k
  else e = .returned (.int .i64 2) ∧ w = w'

set_option maxHeartbeats 1000000 in
theorem fillings_any (w0 w : World) (hb0 : Below w0.heap.size w0 w) (vl vm fv : Value) (l m : List Int) (hvl : Ints w0 vl l) (hvm : Ints w0 vm m) (hfv : ∃ ao fn fc, fv = .func ao fn fc)
    (I : List (List (List Int)) → World → (Nat → Prop) → Prop) (fid : Nat) (fcap : Array Value)
    (hv : ∀ f : Fb, f.w0 = w0 → f.fv = fv → f.caps.length ≤ 100 → f.gs.length = f.caps.length → (∀ c ∈ f.caps, c ≤ 100) → Visit f I fid fcap) (acc : List (List (List Int))) (fp : Nat → Prop) (hI : I acc w fp)
    (hkeep : ∀ w', Below w.heap.size w w' → I acc w' fp) (hM : acc = []) :
    Calls Try.prog 94 #[vl, vm, fv] w (FillingsPost I l m acc w fp) := by
  subst hM
  have hl := hvl.below hb0 (Nat.le_refl _)
  have hm := hvm.below hb0 (Nat.le_refl _)
  by_cases hsh : shpB l = true
  · by_cases hco : coB m = true
    · have hs : Shape l := of_decide_eq_true hsh
      have hc : Content m := of_decide_eq_true hco
      have HP : Hid (∀ e w', (e = .returned (.int .i64 0) ∧ ∃ fp', I ([] ++ fillS l m) w' fp' ∧ Mod fp w w' ∧ ∀ k, fp' k → fp k ∨ w.heap.size ≤ k) → FillingsPost I l m [] w fp e w') := fun e w' h => by
        unfold FillingsPost; rw [if_pos (by simp [hsh, hco])]; exact h
      by_cases hsum : isum l = isum m
      · have HN : Hid (fillS l m = srch (capsOf l) 17 0 (initRows (capsOf l) []) (tallyS m)) := if_pos hsum
        have heq : (isum l == isum m) = true := by simpa using hsum
        have h0 : ∀ x ∈ l, 0 ≤ x := fun x hx => by have := hs.bd x hx; omega
        have hcl : (capsOf l).length ≤ 8 := by rw [capsOf, List.length_map]; exact hs.1
        have hcb : ∀ c ∈ capsOf l, 1 ≤ c ∧ c ≤ 100 := fun c hc => by
          simp only [capsOf, List.mem_map] at hc
          obtain ⟨x, hx, rfl⟩ := hc
          have := hs.bd x hx
          omega
        have hsum8 := capsOf_sum h0
        have hs3 := hs.2.2
        have hfuel : (capsOf l).length + (capsOf l).sum < 17 := by omega
        have HK := hidIt hkeep
        have HFill : Hid (∀ w1, Below w.heap.size w w1 → Calls Try.prog 108 #[vl, .slice none 0 0, .agg (ints (tallyS m)).toArray, fv] w1 fun e w' => e = .returned (.tuple #[]) ∧ ∃ fp', I ([] ++ srch (capsOf l) 17 0 (initRows (capsOf l) []) (tallyS m)) w' fp' ∧ Mod fp w1 w' ∧ ∀ k, fp' k → fp k ∨ w1.heap.size ≤ k) := by
          intro w1 hb1
          refine fill_any w0 w1 (hb0.trans (hb1.mono hb0.size)) vl (.slice none 0 0) fv (capsOf l) [] (tallyS m) (by rw [capsOf_int h0]; exact hvl) (Ints.nilS w0) hcb (by omega) (by simp [tallyS]) (tallyS_bd hc) ?_ I fid fcap hfv hv [] fp (hkeep w1 hb1) 17 hfuel (by have := fillS_len (m := m) hs; rw [HN.out] at this; simpa using this)
          intro i hi
          simp
        clear hkeep hI hsum hv hcl hsum8 hs3 hfuel
        go_enter Try.func94, Try.ntmps94
        go_wp2_with (first
          | (go_at_call 92; refine (isShape_any _ l _ hl).mono ?_; rintro e w' ⟨rfl, rfl⟩)
          | (go_at_call 107; refine (isContent_any _ m _ hm).mono ?_; rintro e w' ⟨rfl, rfl⟩)
          | (go_at_call_of 93 vl; refine (boxes_any _ l _ hl (fun x hx => ⟨by have := hs.bd x hx; omega, (hs.bd x hx).2⟩)).mono ?_; rintro e w' ⟨rfl, rfl⟩)
          | (go_at_call_of 93 vm; refine (boxes_any _ m _ hm hc.bd).mono ?_; rintro e w' ⟨rfl, rfl⟩)
          | (go_at_call 109; refine (tallyOf_any _ m _ hm hc.1).mono ?_; rintro e w1 ⟨rfl, hb1⟩)
          | (go_at_call 108; refine (HFill.out _ hb1).mono ?_; rintro e w2 ⟨rfl, hq⟩))
        go_ret
        refine HP.out _ _ ⟨rfl, ?_⟩
        obtain ⟨fp', q1, q2, q3⟩ := hq
        rw [HN.out]
        exact ⟨fp', q1, (Mod.of_below hb1).trans q2 fun k hk => .inl hk, fun k hk => (q3 k hk).elim .inl fun h => .inr (Nat.le_trans hb1.size h)⟩
      · have HN : Hid (fillS l m = []) := if_neg hsum
        have hne : (isum l == isum m) = false := by simpa using hsum
        clear hkeep hsum hv
        have HI := hidIt hI
        clear hI
        go_enter Try.func94, Try.ntmps94
        go_wp2_with (first
          | (go_at_call 92; refine (isShape_any _ l _ hl).mono ?_; rintro e w' ⟨rfl, rfl⟩)
          | (go_at_call 107; refine (isContent_any _ m _ hm).mono ?_; rintro e w' ⟨rfl, rfl⟩)
          | (go_at_call_of 93 vl; refine (boxes_any _ l _ hl (fun x hx => ⟨by have := hs.bd x hx; omega, (hs.bd x hx).2⟩)).mono ?_; rintro e w' ⟨rfl, rfl⟩)
          | (go_at_call_of 93 vm; refine (boxes_any _ m _ hm hc.bd).mono ?_; rintro e w' ⟨rfl, rfl⟩))
        go_ret
        refine HP.out _ _ ⟨rfl, fp, ?_, Mod.refl _ _, fun k h => .inl h⟩
        rw [HN.out, List.append_nil]
        exact HI.out
    · have hco' : coB m = false := by simpa using hco
      have HP : Hid (∀ w', w = w' → FillingsPost I l m [] w fp (.returned (.int .i64 2)) w') := fun w' h => by
        unfold FillingsPost; rw [if_neg (by simp [hsh, hco'])]; exact ⟨rfl, h⟩
      clear hkeep hv hI hco
      go_enter Try.func94, Try.ntmps94
      go_wp2_with (first
        | (go_at_call 92; refine (isShape_any _ l _ hl).mono ?_; rintro e w' ⟨rfl, rfl⟩)
        | (go_at_call 107; refine (isContent_any _ m _ hm).mono ?_; rintro e w' ⟨rfl, rfl⟩))
      go_ret
      exact HP.out _ rfl
  · have hsh' : shpB l = false := by simpa using hsh
    have HP : Hid (∀ w', w = w' → FillingsPost I l m [] w fp (.returned (.int .i64 2)) w') := fun w' h => by
      unfold FillingsPost; rw [if_neg (by simp [hsh'])]; exact ⟨rfl, h⟩
    clear hkeep hv hI hsh
    go_enter Try.func94, Try.ntmps94
    go_wp2_with (go_at_call 92; refine (isShape_any _ l _ hl).mono ?_; rintro e w' ⟨rfl, rfl⟩)
    go_ret
    exact HP.out _ rfl
end Go.Proofs.Ytlnbodpdgebflaa

namespace Go.Proofs.Ytlnbodpdgebflaa
open Go.RowKit

theorem wrap64_small (n : Nat) (h : n ≤ 16777216) : wrap64 (n : Int) = n := by
  unfold wrap64; omega

/-- The count in a captured variable. -/
def CountI (cb : Nat) (acc : List (List (List Int))) (w : World) (fp : Nat → Prop) : Prop :=
  (∀ k, fp k ↔ k = cb) ∧ w.heap[cb]? = some (.cells #[.int .i64 (wrap64 acc.length)] 3 (0, 0))

theorem wrap64_add (a b : Int) : wrap64 (wrap64 a + b) = wrap64 (a + b) := by
  unfold wrap64; omega

theorem count_any (cb : Nat) (rv : Value) (n : Nat) (w : World) (h : w.heap[cb]? = some (.cells #[.int .i64 (wrap64 n)] 3 (0, 0))) :
    Calls Try.prog 95 #[rv, .pointer (some ⟨cb, 0, none⟩)] w fun e w' => e = .returned (.tuple #[]) ∧ w' = w.setCell ⟨cb, 0, none⟩ (.int .i64 (wrap64 (n + 1))) := by
  have c1 := cell_of_one h
  have c2 := free_of_one h
  have HW : Hid (wrap64 (wrap64 (n : Int) + 1) = wrap64 ((n : Int) + 1)) := wrap64_add _ _
  obtain ⟨q, hq⟩ : ∃ q, q = wrap64 (n : Int) := ⟨_, rfl⟩
  rw [← hq] at c1 HW
  clear h hq
  go_enter Try.func95, Try.ntmps95
  go_wp2
  go_end0
  refine ⟨rfl, ?_⟩
  rw [← HW.out]

theorem count_visit (cb : Nat) (f : Fb) (h0 : f.w0.heap.size ≤ cb) (hfv : f.fv = .func (.func 95) #[] #[.pointer (some ⟨cb, 0, none⟩)]) : Visit f (CountI cb) 95 #[.pointer (some ⟨cb, 0, none⟩)] where
  fv := hfv
  enters := Try.call95
  keeps := fun acc w w' fp h hk _ => ⟨h.1, (hk cb ((h.1 cb).2 rfl)).trans h.2⟩
  fits := fun acc w fp h k hk => by
    obtain rfl := (h.1 k).1 hk
    exact ⟨h0, lt_of_block h.2⟩
  call := fun acc w fp rs left _ h _ _ => by
    refine (count_any cb f.rowsVal acc.length w h.2).mono ?_
    rintro e w' ⟨rfl, rfl⟩
    refine ⟨rfl, fp, ⟨h.1, ?_⟩, (Mod.refl _ _).setCell (.inl ((h.1 cb).2 rfl)) _, fun k h => .inl h⟩
    rw [one_setCell h.2, List.length_append]
    simp

/-- What a call of Kostka leaves. -/
def KostkaPost (l m : List Int) (w : World) (e : Ending) (w' : World) : Prop :=
  e = .returned (.tuple #[.int .i64 (if shpB l && coB m then ((fillS l m).length : Int) else 0), .int .i64 (if shpB l && coB m then 0 else 2)]) ∧ Below w.heap.size w w'

set_option maxHeartbeats 1000000 in
theorem kostka_any (w : World) (vl vm : Value) (l m : List Int) (hvl : Ints w vl l) (hvm : Ints w vm m) :
    Calls Try.prog 68 #[vl, vm] w (KostkaPost l m w) := by
  have hI : CountI w.heap.size [] (w.alloc (.cells #[.int .i64 0] 3)) (fun k => k = w.heap.size) := ⟨fun k => Iff.rfl, by
    show (w.heap.push _)[_]? = _
    simp [wrap64]⟩
  have hf := fillings_any w (w.alloc (.cells #[.int .i64 0] 3)) ((Below.refl _ _).alloc (Nat.le_refl _) _) vl vm (.func (.func 95) #[] #[.pointer (some ⟨w.heap.size, 0, none⟩)]) l m hvl hvm ⟨_, _, _, rfl⟩ (CountI w.heap.size) 95 _
    (fun f h0 hfv _ _ _ => count_visit w.heap.size f (by rw [h0]; exact Nat.le_refl _) hfv) [] (fun k => k = w.heap.size) hI (fun w' hb => ⟨fun k => Iff.rfl, (hb.block _ (by simp)).trans hI.2⟩) rfl
  have HF := hidIt hf
  clear hf hI hvl hvm
  go_enter Try.func68, Try.ntmps68
  go_wp2_with fail
  refine HF.out.mono ?_
  intro e w1 hq
  unfold FillingsPost at hq
  by_cases hc : (shpB l && coB m) = true
  · rw [if_pos hc] at hq
    obtain ⟨rfl, fp', ⟨_, hcb⟩, hm, _⟩ := hq
    have cc := cell_of_one hcb
    rw [List.nil_append, wrap64_small _ (fillS_len (of_decide_eq_true (by simp at hc; exact hc.1)))] at cc
    have HC := hidIt hc
    have hb : Below w.heap.size w w1 := (hm.below (B := w.heap.size) (by simp) (fun k hk => by omega) |> fun h => ((Below.refl _ _).alloc (Nat.le_refl _) _).trans h)
    clear hc hcb HF
    generalize hn : ((fillS l m).length : Int) = n at cc
    have HN := hidIt hn
    clear hn
    go_wp2
    go_ret2
    refine ⟨?_, hb⟩
    rw [if_pos HC.out, if_pos HC.out, HN.out]; rfl
  · rw [if_neg hc] at hq
    obtain ⟨rfl, rfl⟩ := hq
    have HC := hidIt hc
    clear hc HF
    go_wp2
    go_ret2
    refine ⟨?_, (Below.refl _ _).alloc (Nat.le_refl _) _⟩
    rw [if_neg HC.out, if_neg HC.out]; rfl
end Go.Proofs.Ytlnbodpdgebflaa

namespace Go.Proofs.Ytlnbodpdgebflaa
open Go.RowKit

def ones (n : Nat) : List Int := List.replicate n 1

theorem isum_ones (n : Nat) : isum (ones n) = n := by
  induction n with
  | zero => rfl
  | succ n ih =>
    simp only [ones, isum, List.replicate_succ, List.sum_cons] at *
    omega

theorem ones_content {n : Nat} (h : n ≤ 8) : coB (ones n) = true := by
  refine decide_eq_true ⟨by simpa [ones] using h, fun k hk => ?_, by rw [isum_ones]; omega⟩
  have : k < n := by simpa [ones] using hk
  simp [ones, this]

/-- How many fillings have each number once. -/
def stdS (l : List Int) : Int := (fillS l (ones (isum l).toNat)).length

def StdPost (l : List Int) (w : World) (e : Ending) (w' : World) : Prop :=
  e = .returned (.tuple #[.int .i64 (if shpB l then stdS l else 0), .int .i64 (if shpB l then 0 else 2)]) ∧ Below w.heap.size w w'

theorem mid_set (n k : Nat) (hk : k < n) : (ints (List.replicate k 1 ++ List.replicate (n - k) 0)).set k (.int .i64 1) = ints (List.replicate (k + 1) 1 ++ List.replicate (n - (k + 1)) 0) := by
  obtain ⟨m, hm⟩ : ∃ m, n - k = m + 1 := ⟨n - k - 1, by omega⟩
  rw [hm, show n - (k + 1) = m by omega]
  simp only [ints]
  rw [← List.map_set, List.set_append_right _ _ (by simp), List.length_replicate, Nat.sub_self, List.replicate_succ, List.set_cons_zero, List.replicate_succ']
  simp

set_option maxHeartbeats 1000000 in
theorem standard_any (w : World) (vl : Value) (l : List Int) (hvl : Ints w vl l) : Calls Try.prog 66 #[vl] w (StdPost l w) := by
  by_cases hsh : shpB l = true
  · have hs : Shape l := of_decide_eq_true hsh
    have hb8 := hs.2.2
    have hbx : ∀ x ∈ l, 0 ≤ x ∧ x ≤ 8 := fun x hx => ⟨by have := hs.bd x hx; omega, (hs.bd x hx).2⟩
    have hge := (isum_bd l hbx).1
    have hboxes := boxes_any vl l w hvl hbx
    obtain ⟨n, hn⟩ := Int.eq_ofNat_of_zero_le hge
    rw [hn] at hboxes hb8
    have HN := hidIt hn
    have HBx := hidIt hboxes
    have hmk := run_make22 n n (Nat.le_refl _) (by omega)
    clear hge hn hboxes hbx hs
    go_enter Try.func66, Try.ntmps66
    go_wp2_with (first
      | (go_at_call 92; refine (isShape_any _ l _ hvl).mono ?_; rintro e w' ⟨rfl, rfl⟩)
      | (go_at_call 93; refine HBx.out.mono ?_; rintro e w' ⟨rfl, rfl⟩))
    clear HBx hmk
    go_loopw [14] (fun s14 wr => ∃ k : Nat, k ≤ n ∧ s14 = .int .i64 k ∧ wr.heap[w.heap.size]? = some (.cells (ints (List.replicate k 1 ++ List.replicate (n - k) 0)).toArray 3 (0, 0)) ∧ Below w.heap.size w wr) (fun s14 _ => n - (intOf s14).toNat)
    case atStart =>
      refine ⟨0, Nat.zero_le _, rfl, ?_, (Below.refl _ _).alloc (Nat.le_refl _) _⟩
      show (w.heap.push _)[_]? = _
      simp
    case round =>
      obtain ⟨k, hk, rfl, hA, hb⟩ := hrel
      by_cases hlt : k < n
      · have cA : wr.cell? ⟨w.heap.size, k, none⟩ = some (.int .i64 0) := by
          have e : (ints (List.replicate k 1 ++ List.replicate (n - k) 0))[k]? = some (.int .i64 0) := by
            simp only [ints, List.map_append, List.map_replicate]
            rw [List.getElem?_append_right (by simp), List.length_replicate, List.getElem?_replicate, if_pos (by omega)]
          simp [World.cell?, hA, e]
        have fA : wr.frozen? ⟨w.heap.size, k, none⟩ = false := by simp [World.frozen?, hA]
        have HR : Hid ((wr.setCell ⟨w.heap.size, k, none⟩ (.int .i64 1)).heap[w.heap.size]? = some (.cells (ints (List.replicate (k + 1) 1 ++ List.replicate (n - (k + 1)) 0)).toArray 3 (0, 0)) ∧ Below w.heap.size w (wr.setCell ⟨w.heap.size, k, none⟩ (.int .i64 1))) := by
          refine ⟨?_, hb.setCell (Nat.le_refl _) _⟩
          rw [heap_set_at hA, ← mid_set n k hlt]
          simp
        clear hA hb
        go_wp2
        go_roundw
        case rel => exact ⟨k + 1, by omega, by go_num, HR.out⟩
        case measure => simp [intOf]; omega
      · obtain rfl : k = n := by omega
        have hm : Ints wr (.slice (some ⟨w.heap.size, 0, none⟩) k k) (ones k) := by
          refine ⟨⟨_, k, by simp [ints, ones], by simp [ints, ones], by simp [ints, ones]; omega, by unfold maxLen; omega, .inr ⟨w.heap.size, 0, rfl, lt_of_block hA, fun j x hx => ?_⟩⟩, ?_⟩
          · simp only [World.cell?, hA, Nat.zero_add]
            simpa [ones] using hx
          · intro x hx
            have := List.eq_of_mem_replicate hx
            subst this
            exact ⟨by omega, by omega⟩
        have hK := kostka_any wr vl _ l (ones k) (hvl.below hb (Nat.le_refl _)) hm
        have HK := hidIt hK
        have HB := hidIt hb
        clear hK hm hA hb
        go_wp2_with fail
        refine HK.out.mono ?_
        rintro e w2 ⟨rfl, hb2⟩
        have HC : Hid ((shpB l && coB (ones k)) = true) := by rw [hsh, ones_content (by omega)]; rfl
        obtain ⟨x, hx⟩ : ∃ x, x = (if shpB l && coB (ones k) then ((fillS l (ones k)).length : Int) else 0) := ⟨_, rfl⟩
        obtain ⟨y, hy⟩ : ∃ y, y = (if shpB l && coB (ones k) then (0 : Int) else 2) := ⟨_, rfl⟩
        rw [← hx, ← hy]
        have HX := hidIt hx
        have HY := hidIt hy
        have HSH := hidIt hsh
        clear hx hy HK hsh
        go_wp2
        go_ret2
        refine ⟨?_, HB.out.trans (hb2.mono HB.out.size)⟩
        rw [if_pos HSH.out, if_pos HSH.out, stdS, HN.out, Int.toNat_natCast]
        rw [if_pos HC.out] at HX HY
        rw [← HX.out, ← HY.out]
        rfl
  · have hsh' : shpB l = false := by simpa using hsh
    have HP : Hid (∀ w', w = w' → StdPost l w (.returned (.tuple #[.int .i64 0, .int .i64 2])) w') := fun w' h => by
      subst h
      refine ⟨?_, Below.refl _ _⟩
      rw [if_neg hsh, if_neg hsh]
    clear hsh
    go_enter Try.func66, Try.ntmps66
    go_wp2_with (go_at_call 92; refine (isShape_any _ l _ hvl).mono ?_; rintro e w' ⟨rfl, rfl⟩)
    go_ret2
    exact HP.out _ rfl
end Go.Proofs.Ytlnbodpdgebflaa
