/- Greatest and Tangents of arcs and of the reference -/
import Derived.Test.YtllokfkagneneaaDf
import Derived.Test.YtllokfkagneneaaY
namespace Go.Proofs.Ytllokfkagneneaa
open Go.RowKit

def greatS (p : Int) : Int := if p = 2 then 4 else p + 1
def GreatPost (w : World) (p : Int) (e : Ending) (w' : World) : Prop :=
  (if isP p = true then e = .returned (.tuple #[.int .i64 (greatS p), .int .i64 0]) else e = .returned (.tuple #[.int .i64 0, .int .i64 2])) ∧ Below w.heap.size w w'

set_option maxHeartbeats 2000000 in
theorem greatest_any (p : Int) (w : World) : Calls Try.prog 40 #[.int .i64 p] w (GreatPost w p) := by
  have HO := Lib.hid (open_any p (.slice none 0 0) [] w (Ints.nil w))
  cases hp : isP p with
  | false =>
    rw [hp] at HO
    have HP := Lib.hid hp
    clear hp
    go_enter Try.func40, Try.ntmps40
    go_wp2_with fail
    refine HO.out.mono ?_
    intro e w1 hq
    obtain ⟨rfl, hb⟩ := hq
    have HB := Lib.hid hb
    clear hb
    go_wp2
    go_ret2
    unfold GreatPost
    rw [HP.out]
    exact ⟨rfl, HB.out⟩
  | true =>
    have hin : inB p.toNat [] = true := rfl
    rw [hp, hin] at HO
    have HP := Lib.hid hp
    have hpc : 2 ≤ p ∧ p ≤ 7 := by have := isP_cases hp; omega
    obtain ⟨hp2, hp7⟩ := hpc
    clear hp hin
    by_cases h2 : p = 2
    · subst h2
      go_enter Try.func40, Try.ntmps40
      go_wp2_with fail
      refine HO.out.mono ?_
      intro e w1 hq
      obtain ⟨b, rfl, _, _, hb⟩ := hq
      have HB := Lib.hid hb
      clear hb
      go_wp2
      go_ret2
      unfold GreatPost
      rw [HP.out]
      exact ⟨rfl, HB.out⟩
    · have hd : (p == 2) = false := by simpa using h2
      have HG : Hid (greatS p = p + 1) := if_neg h2
      clear h2
      go_enter Try.func40, Try.ntmps40
      go_wp2_with fail
      refine HO.out.mono ?_
      intro e w1 hq
      obtain ⟨b, rfl, _, _, hb⟩ := hq
      have HB := Lib.hid hb
      clear hb
      go_wp2
      go_ret2
      unfold GreatPost
      rw [HP.out, HG.out]
      exact ⟨rfl, HB.out⟩

set_option maxHeartbeats 1000000 in
theorem rGreatest_any (p : Int) (w : World) (h1 : 2 ≤ p) (h2 : p ≤ 7) : Calls Try.prog 42 #[.int .i64 p] w fun e w' => e = .returned (.int .i64 (greatS p)) ∧ w = w' := by
  by_cases h : p = 2
  · subst h
    go_enter Try.func42, Try.ntmps42
    go_wp2
    go_ret
    exact ⟨rfl, rfl⟩
  · have hd : (p == 2) = false := by simpa using h
    have HG : Hid (greatS p = p + 1) := if_neg h
    clear h
    go_enter Try.func42, Try.ntmps42
    go_wp2
    go_ret
    exact ⟨ret_int HG.out.symm, rfl⟩

/-- The tangents of a set at a point. -/
def tanS (q : Nat) (xs : List Int) (pt k : Nat) : List Int := ((List.range k).filter fun l => decide (cntL q xs l = 1) && onB q pt l).map fun (l : Nat) => (l : Int)
theorem tanS_yes {q pt k : Nat} {xs : List Int} (h1 : cntL q xs k = 1) (h2 : onB q pt k = true) : tanS q xs pt (k+1) = tanS q xs pt k ++ [(k : Int)] := by
  simp [tanS, List.range_succ, List.filter_append, h1, h2]
theorem tanS_no {q pt k : Nat} {xs : List Int} (h : ¬ (cntL q xs k = 1 ∧ onB q pt k = true)) : tanS q xs pt (k+1) = tanS q xs pt k := by
  have : (decide (cntL q xs k = 1) && onB q pt k) = false := by
    rw [Bool.eq_false_iff]; intro e; exact h (by simpa using e)
  simp [tanS, List.range_succ, List.filter_append, this]
theorem tanS_le (q : Nat) (xs : List Int) (pt k : Nat) : (tanS q xs pt k).length ≤ k := by
  have := List.length_filter_le (fun l => decide (cntL q xs l = 1) && onB q pt l) (List.range k)
  simpa [tanS] using this
theorem tanS_I64 (q : Nat) (xs : List Int) (pt k : Nat) (hk : k ≤ 1000) : ∀ x ∈ tanS q xs pt k, I64 x := by
  intro x hx
  simp only [tanS, List.mem_map, List.mem_filter, List.mem_range] at hx
  obtain ⟨l, ⟨hl, _⟩, rfl⟩ := hx
  unfold I64; omega
theorem tanS_kept (q : Nat) (xs : List Int) (pt k : Nat) : keptL (offB q pt) (linesW q 1 xs k) = tanS q xs pt k := by
  unfold keptL linesW tanS
  rw [List.filter_map, List.filter_filter]
  congr 1
  refine List.filter_congr fun l _ => ?_
  simp only [Function.comp, offB, Bool.not_not, Int.toNat_natCast]
  rw [Bool.and_comm]
  congr 1
  by_cases c : cntL q xs l = 1 <;> simp [c] <;> omega

theorem linesW_in (q : Nat) (n : Int) (xs : List Int) : InP q (linesW q n xs (np q)) := by
  intro k hk
  have hm := getD_mem hk
  simp only [linesW, List.mem_map, List.mem_filter, List.mem_range] at hm
  obtain ⟨l, ⟨hl, _⟩, e⟩ := hm
  unfold linesW
  omega

def TanPost (w : World) (p : Int) (xs : List Int) (pt : Int) (e : Ending) (w' : World) : Prop :=
  if setB p xs = true ∧ pt ∈ xs then ∃ v, e = .returned (.tuple #[v, .int .i64 0]) ∧ Ints w' v (tanS p.toNat xs pt.toNat (np p.toNat)) ∧ Below w.heap.size w w'
  else e = .returned (.tuple #[.slice none 0 0, .int .i64 2]) ∧ Below w.heap.size w w'

set_option maxHeartbeats 4000000 in
theorem tangents_any (p : Int) (v : Value) (xs : List Int) (pt : Int) (w : World) (h : Ints w v xs) :
    Calls Try.prog 41 #[.int .i64 p, v, .int .i64 pt] w (TanPost w p xs pt) := by
  have HB0 := Lib.hid ((Below.refl w.heap.size w).alloc (Nat.le_refl _) (.cells #[.int .i64 pt] 3))
  have HO := Lib.hid (openSet_any p v xs _ (h.below HB0.out (Nat.le_refl _)))
  have HV : Hid (∀ w', Below w.heap.size w w' → Ints w' v xs) := fun w' hb => h.below hb (Nat.le_refl _)
  have HPt : Hid ((w.alloc (.cells #[.int .i64 pt] 3)).cell? ⟨w.heap.size, 0, none⟩ = some (.int .i64 pt)) := by simp only [World.cell?, heap_alloc_new]; rfl
  cases hs : setB p xs with
  | false =>
    have HS : Hid (¬ (setB p xs = true ∧ pt ∈ xs)) := fun h => by rw [hs] at h; simp at h
    rw [hs] at HO
    clear hs h
    go_enter Try.func41, Try.ntmps41
    go_wp2_with fail
    refine HO.out.mono ?_
    intro e w1 hq
    obtain ⟨rfl, hbel⟩ := hq
    have HB1 := Lib.hid (HB0.out.trans (hbel.mono HB0.out.size))
    clear hbel
    have HB2 := Lib.hid (HB1.out.alloc HB1.out.size (.cells #[.pointer none] 82))
    go_wp2
    go_ret2
    unfold TanPost
    rw [if_neg HS.out]
    exact ⟨rfl, HB2.out⟩
  | true =>
    obtain ⟨q, rfl, hq, hin, hr⟩ := setB_of hs
    have HSs := Lib.hid hs
    rw [hs] at HO
    have HIn := Lib.hid hin
    have HQ := Lib.hid hq
    have HLn := Lib.hid (fun (b : Nat) (w1 : World) (hP : PlaneAt w1 b q) (hb : Below w.heap.size w w1) => linesWith_any b q 1 v xs w1 hP hq (h.below hb (Nat.le_refl _)) hin)
    have HCt := Lib.hid (fun (w1 : World) (hb : Below w.heap.size w w1) => contains_any v xs pt w1 (h.below hb (Nat.le_refl _)))
    have hll := linesW_le q 1 xs (np q)
    have hn57 := np_le q hq.le.2
    have HLI := Lib.hid (linesW_I64 q 1 xs (np q) (by omega))
    have HLP := Lib.hid (linesW_in q 1 xs)
    by_cases hm : pt ∈ xs
    · obtain ⟨pn, hpn, hpq⟩ : ∃ pn : Nat, pt = pn ∧ pn < np q := by
        obtain ⟨k, hk, rfl⟩ := mem_getD hm
        have := hin k hk
        exact ⟨(xs.getD k 0).toNat, by omega, by omega⟩
      have HM : Hid (setB (q:Int) xs = true ∧ pt ∈ xs) := ⟨hs, hm⟩
      rw [show hasB xs pt = true from decide_eq_true hm] at HCt
      have HPq := Lib.hid hpq
      subst hpn
      have HTK := Lib.hid (tanS_kept q xs pn (np q))
      clear hs h hq hin hr hm hpq
      go_enter Try.func41, Try.ntmps41
      go_wp2_with fail
      refine HO.out.mono ?_
      intro e w1 hq
      obtain ⟨b, rfl, hb, hP, hbel⟩ := hq
      have HP1 : Hid (PlaneAt w1 b q) := hP
      have HPt1 := Lib.hid (ck HPt.out hbel)
      have HB1 := Lib.hid (HB0.out.trans (hbel.mono HB0.out.size))
      have HB2 := Lib.hid (HB1.out.alloc HB1.out.size (.cells #[.pointer (some ⟨b, 0, none⟩)] 82))
      have HBa := Lib.hid ((Below.refl w1.heap.size w1).alloc (Nat.le_refl _) (.cells #[.pointer (some ⟨b, 0, none⟩)] 82))
      have hp8 : (w1.alloc (.cells #[.pointer (some ⟨b, 0, none⟩)] 82)).cell? ⟨w1.heap.size, 0, none⟩ = some (.pointer (some ⟨b, 0, none⟩)) := by simp only [World.cell?, heap_alloc_new]; rfl
      have hp5 := ck HPt1.out HBa.out
      have HCap : Hid (Cap83 (w1.alloc (.cells #[.pointer (some ⟨b, 0, none⟩)] 82)) w1.heap.size w.heap.size b q pn) := ⟨hp8, hp5, HP1.out.below HBa.out (Nat.le_refl _)⟩
      clear hP hbel HPt HO
      go_wp2_with fail
      refine (HCt.out _ HB2.out).mono ?_
      rintro e w2 ⟨rfl, rfl⟩
      go_wp2_with fail
      refine (HLn.out b _ HCap.out.2.2 HB2.out).mono ?_
      rintro e w3 ⟨v3, rfl, hown, hb3⟩
      have HB3 := Lib.hid (HB2.out.trans (hb3.mono HB2.out.size))
      have HDel := Lib.hid (deleteFunc_any w1.heap.size w.heap.size b q pn _ v3 (linesW q 1 xs (np q)) w3 (fun w' hb => HCap.out.below (hb3.trans hb)) HQ.out HPq.out hown hb3.size HLP.out HLI.out (by omega))
      rw [HTK.out] at HDel
      have hs3 := hb3.size
      clear hown hb3
      go_wp2_with fail
      refine HDel.out.mono ?_
      rintro e w4 ⟨v4, rfl, hv4, hb4⟩
      have HV4 := Lib.hid hv4
      have HB4 := Lib.hid (HB3.out.trans (hb4.mono HB2.out.size))
      clear hv4 hb4
      go_wp2
      go_ret2
      unfold TanPost
      rw [if_pos HM.out]
      exact ⟨v4, rfl, HV4.out, HB4.out⟩
    · have HS : Hid (¬ (setB (q:Int) xs = true ∧ pt ∈ xs)) := fun h => hm h.2
      rw [show hasB xs pt = false from decide_eq_false hm] at HCt
      clear hs h hq hin hr hm
      go_enter Try.func41, Try.ntmps41
      go_wp2_with fail
      refine HO.out.mono ?_
      intro e w1 hq
      obtain ⟨b, rfl, hb, hP, hbel⟩ := hq
      have HPt1 := Lib.hid (ck HPt.out hbel)
      have HB1 := Lib.hid (HB0.out.trans (hbel.mono HB0.out.size))
      have HB2 := Lib.hid (HB1.out.alloc HB1.out.size (.cells #[.pointer (some ⟨b, 0, none⟩)] 82))
      have HBa := Lib.hid ((Below.refl w1.heap.size w1).alloc (Nat.le_refl _) (.cells #[.pointer (some ⟨b, 0, none⟩)] 82))
      have hp5 := ck HPt1.out HBa.out
      clear hP hbel HPt HO
      go_wp2_with fail
      refine (HCt.out _ HB2.out).mono ?_
      rintro e w2 ⟨rfl, rfl⟩
      go_wp2
      go_ret2
      unfold TanPost
      rw [if_neg HS.out]
      exact ⟨rfl, HB2.out⟩

set_option maxHeartbeats 4000000 in
set_option maxRecDepth 100000 in
theorem rTangents_any (q pt : Nat) (v : Value) (xs : List Int) (w : World) (hq : isPn q) (h : Ints w v xs) (hin : InP q xs) (hpt : pt < np q) :
    Calls Try.prog 45 #[.int .i64 q, v, .int .i64 pt] w fun e w' => ∃ v', e = .returned v' ∧ w'.ownsRow w.heap.size 3 1 v' (tanS q xs pt (np q)).length (ints (tanS q xs pt (np q))) ∧ Below w.heap.size w w' := by
  have HTab := Lib.hid (table2_any q w hq)
  have HV : Hid (∀ w', Below w.heap.size w w' → Ints w' v xs) := fun w' hb => h.below hb (Nat.le_refl _)
  have HOn := Lib.hid (fun a b (ha : a < np q) (hb : b < np q) w => rOn_any q a b w hq ha hb)
  obtain ⟨i0, hi, hz0, hz1, hz2⟩ := info_parts Try.info3
  obtain ⟨ao, capx, rfl, h1, h2, hx⟩ := h.open
  have HIn : Hid (∀ k : Nat, k < xs.length → 0 ≤ xs.getD k 0 ∧ xs.getD k 0 < (np q : Nat)) := hin
  have hn57 := np_le q hq.le.2
  obtain ⟨T, hT⟩ : ∃ T, T = tanS q xs pt (np q) := ⟨_, rfl⟩
  rw [← hT]
  have HTT := Lib.hid hT
  clear h hx hin hq hT
  go_enter Try.func45, Try.ntmps45
  go_wp2_with fail
  refine HTab.out.mono ?_
  rintro e w1 ⟨t, rfl, ht, hb1⟩
  have hV := HV.out w1 hb1
  obtain ⟨ao', cap', hv, _, _, hx⟩ := hV.open
  simp only [Value.slice.injEq] at hv
  obtain ⟨rfl, _, rfl⟩ := hv
  obtain ⟨c, cap, rfl, hcap, ht2⟩ := ht
  obtain ⟨d, capd, hcd, hcapd, hcb⟩ := ht2 pt hpt
  have HCb := Lib.hid hcb
  have HX := Lib.hid hx
  have HB1 := Lib.hid hb1
  have hszw := hb1.size
  clear hb1 ht2 hx HTab HV hV hcb
  generalize np q = n at *
  go_wp2_with fail
  go_loopw [7, 19] (fun s7 i wr => ∃ k : Nat, k ≤ n ∧ i = .int .i64 k ∧ wr.ownsRow w1.heap.size 3 1 s7 (tanS q xs pt k).length (ints (tanS q xs pt k)) ∧ Below w1.heap.size w1 wr) (fun _ i _ => n - (intOf i).toNat)
  case atStart => exact ⟨0, Nat.zero_le _, rfl, World.ownsRow_nil _ _ _ _, Below.refl _ _⟩
  case round =>
    obtain ⟨k, hk, rfl, ho, hb⟩ := hrel
    have HO := Lib.hid ho
    have HB := Lib.hid hb
    have hll := tanS_le q xs pt k
    clear ho hb
    rename World => wo
    by_cases hlt : k < n
    · have hcbk := ck (HCb.out k hlt) HB.out
      have HY := Lib.hid (tanS_yes (q := q) (pt := pt) (k := k) (xs := xs))
      have HN := Lib.hid (tanS_no (q := q) (pt := pt) (k := k) (xs := xs))
      generalize tanS q xs pt k = ls at *
      go_wp2_with fail
      go_loopw [10, 26] (fun s10 j wr => ∃ l : Nat, l ≤ xs.length ∧ j = .int .i64 l ∧ s10 = .int .i64 (cntL q (xs.take l) k) ∧ Below wo.heap.size wo wr) (fun _ j _ => xs.length - (intOf j).toNat)
      case atStart => exact ⟨0, Nat.zero_le _, rfl, by rw [cntL_zero]; rfl, Below.refl _ _⟩
      case round =>
        obtain ⟨l, hl, rfl, rfl, hb2⟩ := hrel
        have HB2 := Lib.hid hb2
        clear hb2
        have hcl := Nat.le_trans (cntL_le q (xs.take l) k) (List.length_take_le l xs)
        by_cases hltl : l < xs.length
        · obtain ⟨bx, ox, rfl, hck⟩ := HX.out l hltl
          have hck2 := ck (ck hck HB.out) HB2.out
          obtain ⟨i, hi'⟩ := Int.eq_ofNat_of_zero_le (HIn.out l hltl).1
          have hiq : i < n := by have := (HIn.out l hltl).2; omega
          have HCx := Lib.hid (HOn.out i k hiq hlt wr)
          have HCy := Lib.hid (fun h => cntL_yes (q := q) (l := k) hltl h)
          have HCn := Lib.hid (fun h => cntL_no (q := q) (l := k) hltl h)
          rw [hi'] at hck2 HCy HCn
          rw [Int.toNat_natCast] at HCy HCn
          clear hi' hck
          generalize cntL q (xs.take l) k = cc at *
          cases hon : onB q i k with
          | true =>
            rw [hon] at HCx
            have HY' := Lib.hid (HCy.out hon)
            clear hon
            go_wp2_with fail
            refine HCx.out.mono ?_
            rintro e w3 ⟨rfl, hb3⟩
            have HB3 := Lib.hid (HB2.out.trans (hb3.mono HB2.out.size))
            clear hb3
            go_wp2
            go_roundw
            case rel => exact ⟨l + 1, by omega, by go_num, by rw [HY'.out]; go_num, HB3.out⟩
            case measure => simp [intOf]; omega
          | false =>
            rw [hon] at HCx
            have HN' := Lib.hid (HCn.out hon)
            clear hon
            go_wp2_with fail
            refine HCx.out.mono ?_
            rintro e w3 ⟨rfl, hb3⟩
            have HB3 := Lib.hid (HB2.out.trans (hb3.mono HB2.out.size))
            clear hb3
            go_wp2
            go_roundw
            case rel => exact ⟨l + 1, by omega, by go_num, by rw [HN'.out], HB3.out⟩
            case measure => simp [intOf]; omega
        · obtain rfl : l = xs.length := by omega
          rw [List.take_length] at *
          have HOw := Lib.hid (owns_below HO.out HB2.out (Nat.le_refl _))
          have HBw := Lib.hid (HB.out.trans (HB2.out.mono HB.out.size))
          generalize cntL q xs k = cc at *
          cases hon : onB q pt k with
          | false =>
            have HN' := Lib.hid (HN.out fun h => by rw [hon] at h; simp at h)
            clear hon
            go_wp2
            go_roundw
            case rel => exact ⟨k + 1, by omega, by go_num, by rw [HN'.out]; exact HOw.out, HBw.out⟩
            case measure => simp [intOf]; omega
          | true =>
            by_cases h1c : cc = 1
            · have HY' := Lib.hid (HY.out h1c hon)
              have hd : ((cc:Int) == 1) = true := by simp; omega
              clear hon h1c
              go_wp2_with (at_builtin; refine wpList_append_own _ rfl _ _ 38 rfl w1.heap.size 3 i0 (.int .i64 0) 1 8 Try.underlying38 hi hz0 hz1 hz2 rfl (by decide) _ _ _ rfl (HOw.out.alloc _) ⟨_, 0, none⟩ 1 1 [.int .i64 k] rfl rfl (newOne _ _ _) (oneInt _) (by unfold maxLen; omega) (by omega) (by have := HBw.out.size; simp; omega) ?_)
              intro v' w2 hown' hgrow _
              have HR := Lib.hid (int_step HOw.out HBw.out HBw.out.size hown' hgrow)
              clear hown' hgrow
              go_wp2
              go_roundw
              case rel => exact ⟨k + 1, by omega, by go_num, by rw [HY'.out]; exact HR.out.1, HR.out.2⟩
              case measure => simp [intOf]; omega
            · have HN' := Lib.hid (HN.out fun h => h1c h.1)
              have hd : ((cc:Int) == 1) = false := by simp; omega
              clear hon h1c
              go_wp2
              go_roundw
              case rel => exact ⟨k + 1, by omega, by go_num, by rw [HN'.out]; exact HOw.out, HBw.out⟩
              case measure => simp [intOf]; omega
    · obtain rfl : k = n := by omega
      rw [← HTT.out] at HO
      go_wp2
      go_ret
      exact ⟨_, rfl, owns_mono HO.out hszw, HB1.out.trans (HB.out.mono HB1.out.size)⟩
end Go.Proofs.Ytllokfkagneneaa
