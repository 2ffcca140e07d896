/- polynomials of the program: trim 105, plus 104, times 103; polynomials of the program: times 103; polynomials of the program: plus 104; polynomials of the reference: trimmed 89, add 88 -/
import Derived.Test.YtlnbodpdgebflaaPr
import Derived.Test.YtlnbodpdgebflaaCa
import Derived.Deep.OwnRows
import Derived.Laws.CopyOwn
namespace Go.Proofs.Ytlnbodpdgebflaa
open Go.RowKit

def vlen : Value → Nat
  | .slice _ n _ => n
  | _ => 0
set_option maxHeartbeats 1000000 in
theorem trim_any (v : Value) (l : List Int) (w : World) (h : Ints w v l) :
    Calls Try.prog 105 #[v] w fun e w' => ∃ a c, e = .returned (.slice a (trL l).length c) ∧ Ints w (.slice a (trL l).length c) (trL l) ∧ w = w' := by
  obtain ⟨ao, cap, rfl, h1, h2, hx⟩ := h.open
  have HX := Lib.hid hx
  have HI := Lib.hid h
  clear hx h
  go_enter Try.func105, Try.ntmps105
  go_wp2_with fail
  go_loop [0] (fun v => ∃ k : Nat, k ≤ l.length ∧ v = .slice ao k cap ∧ Hid (trL (l.take k) = trL l)) (fun v => vlen v)
  case atStart => exact ⟨l.length, Nat.le_refl _, rfl, Lib.hid (by rw [List.take_length])⟩
  case round =>
    obtain ⟨k, hk, rfl, hT⟩ := hrel
    by_cases h0 : k = 0
    · subst h0
      have HE : Hid (trL l = []) := Lib.hid (by rw [← hT.out]; rfl)
      go_wp2_with fail
      refine bodyPost_ret (results_tmp rfl _ _ _) rfl ⟨ao, cap, by rw [HE.out]; rfl, ?_, rfl⟩
      rw [HE.out]
      exact HI.out.take (k := 0) (Nat.zero_le _)
    · obtain ⟨q, rfl⟩ : ∃ q, k = q + 1 := ⟨k - 1, by omega⟩
      obtain ⟨b, o, rfl, c1⟩ := HX.out q (by omega)
      have hq1 : ((q + 1 : Nat) : Int) - 1 = (q : Int) := by omega
      by_cases hz : l.getD q 0 = 0
      · have HT2 : Hid (trL (l.take q) = trL l) := Lib.hid (by rw [← trL_take (by omega) hz]; exact hT.out)
        rw [hz] at c1
        go_wp2_with fail
        go_round
        case rel => exact ⟨q, by omega, by go_num, HT2⟩
        case measure => simp [vlen]
      · have HE : Hid (trL l = l.take (q + 1)) := Lib.hid (by rw [← hT.out]; exact trL_stop (by omega) hz)
        have hlen : (l.take (q + 1)).length = q + 1 := by rw [List.length_take]; omega
        generalize l.getD q 0 = z at *
        have hzb : (z == 0) = false := beq_eq_false_iff_ne.2 hz
        go_wp2_with fail
        refine bodyPost_ret (results_tmp rfl _ _ _) rfl ⟨some ⟨b, o, none⟩, cap, by rw [HE.out, hlen]; rfl, ?_, rfl⟩
        rw [HE.out, hlen]
        exact HI.out.take (by omega)
end Go.Proofs.Ytlnbodpdgebflaa

namespace Go.Proofs.Ytlnbodpdgebflaa
open Go.RowKit

theorem tabI_len (n : Nat) (F : Nat → Int) : (ints (tab n F)).length = n := by rw [ints_length, tab_len]
theorem tabI_get {n i : Nat} (F : Nat → Int) (h : i < n) : (ints (tab n F))[i]? = some (.int .i64 (F i)) := by simp [ints, tab, h]
theorem tabI_set {n j : Nat} {F G : Nat → Int} (v : Int) (hG : ∀ i, i < n → G i = if i = j then v else F i) : (ints (tab n F)).set j (.int .i64 v) = ints (tab n G) := by
  apply List.ext_getElem?
  intro i
  by_cases hi : i < n
  · rw [tabI_get G hi, hG i hi]
    by_cases q : j = i
    · subst q
      rw [List.getElem?_set_self (by rw [tabI_len]; exact hi), if_pos rfl]
    · rw [List.getElem?_set_ne q, if_neg (Ne.symm q), tabI_get F hi]
  · rw [List.getElem?_eq_none (by rw [List.length_set, tabI_len]; omega), List.getElem?_eq_none (by rw [tabI_len]; omega)]
theorem run_makeP (n : Nat) (hn : n ≤ 1000) (W : World) : (Instr.makeSlice 106 (.int .i64 n) (.int .i64 n)).run Try.prog W = .ok (.slice (some ⟨W.heap.size, 0, none⟩) n n) (W.alloc (.cells (ints (tab n fun _ => 0)).toArray 3)) := by
  rw [run_make_row' (P := Try.prog) 106 3 (.int .i64 0) 8 Try.underlying106 Try.info3 rfl .i64 .i64 n (by omega) (by omega) W]
  have e : madeCells #[Value.int .i64 0] n = (ints (tab n fun _ => 0)).toArray := by
    apply Array.ext'
    rw [toList_madeCells_one]
    exact (List.eq_replicate_iff.2 ⟨by simp [ints, tab], fun b hb => by
      obtain ⟨x, hx, rfl⟩ := List.mem_map.1 hb
      obtain ⟨j, _, rfl⟩ := List.mem_map.1 hx
      rfl⟩).symm
  rw [e]
theorem ownP_made (n : Nat) (hn : n ≤ 1000) (W : World) : (W.alloc (.cells (ints (tab n fun _ => 0)).toArray 3)).ownsRow W.heap.size 3 1 (.slice (some ⟨W.heap.size, 0, none⟩) n n) n (ints (tab n fun _ => 0)) := by
  have h := World.ownsRow_lit (base := W.heap.size) (e := 3) (size := 1) W (ints (tab n fun _ => 0)).toArray n (Nat.le_refl _) (by unfold maxLen; omega) (by simp [tabI_len])
  simpa using h

set_option maxHeartbeats 2000000 in
theorem times_any (v v' : Value) (f h : List Int) (w : World) (hf : Ints w v f) (hh : Ints w v' h) (lf : f.length ≤ 64) (lh : h.length ≤ 64) (bf : Bnd 1000000 f) (bh : Bnd 1000000 h) :
    Calls Try.prog 103 #[v, v'] w fun e w' => ∃ a c, e = .returned (.slice a (tmsL f h).length c) ∧ Ints w' (.slice a (tmsL f h).length c) (tmsL f h) ∧ Below w.heap.size w w' := by
  obtain ⟨fo, fc, rfl, hf1, _, hfx⟩ := hf.open
  obtain ⟨ho, hc, rfl, hh1, _, hhx⟩ := hh.open
  have HFX := Lib.hid hfx
  have HHX := Lib.hid hhx
  clear hfx hhx
  by_cases h0 : f.length = 0 ∨ h.length = 0
  · have HE : Hid (tmsL f h = []) := Lib.hid (if_pos h0)
    have hN : Hid (Ints w (.slice none 0 0) []) := Lib.hid ⟨⟨none, 0, rfl, Nat.le_refl _, Nat.zero_le _, Nat.zero_le _, .inl rfl⟩, fun x hx => by simp at hx⟩
    rcases Nat.eq_zero_or_pos f.length with hz | hz
    · have hz1 : ((f.length : Int) == 0) = true := by rw [hz]; rfl
      clear hf hh HFX HHX
      generalize f.length = fl at *
      generalize h.length = hl at *
      go_enter Try.func103, Try.ntmps103
      go_wp2_with fail
      refine bodyPost_ret (results_tmp rfl _ _ _) rfl ⟨none, 0, by rw [HE.out]; rfl, by rw [HE.out]; exact hN.out, Below.refl _ _⟩
    · have hz1 : ((f.length : Int) == 0) = false := beq_eq_false_iff_ne.2 (by omega)
      have hz2 : ((h.length : Int) == 0) = true := by rw [show h.length = 0 by omega]; rfl
      clear hf hh HFX HHX
      generalize f.length = fl at *
      generalize h.length = hl at *
      go_enter Try.func103, Try.ntmps103
      go_wp2_with fail
      refine bodyPost_ret (results_tmp rfl _ _ _) rfl ⟨none, 0, by rw [HE.out]; rfl, by rw [HE.out]; exact hN.out, Below.refl _ _⟩
  · have hf0 : f ≠ [] := fun e => h0 (.inl (by rw [e]; rfl))
    have hh0 : h ≠ [] := fun e => h0 (.inr (by rw [e]; rfl))
    have HE : Hid (tmsL f h = muL f h) := Lib.hid (if_neg h0)
    have HLn := Lib.hid (muL_len f h hf0 hh0)
    have HEnd := Lib.hid (muF_end f h hf0 hh0)
    have HRow := Lib.hid (fun i hi k => muF_row f h (i := i) hi k)
    have HSuc := Lib.hid (fun i j k => muF_succ f h i j k)
    have HZer := Lib.hid (fun k => muF_zero f h k)
    have HBd := Lib.hid (fun i hi j k => muF_bd bf bh (i := i) hi j k)
    have HBF := Lib.hid bf.get
    have HBH := Lib.hid bh.get
    have hz1 : ((f.length : Int) == 0) = false := beq_eq_false_iff_ne.2 (by omega)
    have hz2 : ((h.length : Int) == 0) = false := beq_eq_false_iff_ne.2 (by omega)
    have hfp : 0 < f.length := by omega
    have hhp : 0 < h.length := by omega
    clear hf hh h0 hf0 hh0 bf bh
    have HMB : Hid (∀ i j, -(1000000000000 : Int) ≤ f.getD i 0 * h.getD j 0 ∧ f.getD i 0 * h.getD j 0 ≤ 1000000000000) := Lib.hid fun i j => by
      have := mul_bd' (HBF.out i) (HBH.out j)
      omega
    have HB2 : Hid (∀ i, i ≤ f.length → ∀ j k, -(65000000000000 : Int) ≤ muF f h i j k ∧ muF f h i j k ≤ 65000000000000) := Lib.hid fun i hi j k => by
      have h9 := HBd.out i hi j k
      have : (f.length + 1) * (1000000 * 1000000) ≤ 65 * (1000000 * 1000000) := Nat.mul_le_mul_right _ (by omega)
      omega
    obtain ⟨fl, hfl⟩ : ∃ fl, fl = f.length := ⟨_, rfl⟩
    obtain ⟨hl, hhl⟩ : ∃ hl, hl = h.length := ⟨_, rfl⟩
    obtain ⟨n, hn⟩ : ∃ n, n + 1 = fl + hl := ⟨fl + hl - 1, by omega⟩
    rw [← hfl, ← hhl, show fl + hl - 1 = n by omega] at HLn HEnd
    rw [← hfl] at HFX HRow HB2 hf1 lf hz1 hfp
    rw [← hhl] at HHX HRow hh1 lh hz2 hhp
    rw [← hfl, ← hhl]
    have hn1 : (fl : Int) + (hl : Int) - 1 = (n : Int) := by omega
    have hmk := run_makeP n (by omega)
    have HO0 := Lib.hid (ownP_made n (by omega) w)
    rw [show tab n (fun _ => 0) = tab n (fun t => muF f h 0 0 t) from tab_congr fun i _ => (HZer.out i).symm] at HO0
    clear hfl hhl HBd HBF HBH HZer
    go_enter Try.func103, Try.ntmps103
    go_wp2_with fail
    clear hmk
    go_loopw [27] (fun i wr => ∃ k : Nat, k ≤ fl ∧ i = .int .i64 k ∧ wr.ownsRow w.heap.size 3 1 (.slice (some ⟨w.heap.size, 0, none⟩) n n) n (ints (tab n fun t => muF f h k 0 t)) ∧ Below w.heap.size w wr) (fun i _ => fl - (intOf i).toNat)
    case atStart => exact ⟨0, Nat.zero_le _, rfl, by have := HO0.out; rwa [show tab n (fun t => muF f h 0 0 t) = tab n (fun _ => 0) from tab_congr fun i _ => muF_zero f h i] at this ⊢, a1 w _⟩
    case round =>
      clear HO0
      obtain ⟨k, hk, rfl, ho, hb⟩ := hrel
      by_cases hkl : k < fl
      · obtain ⟨b, o, rfl, c1⟩ := HFX.out k hkl
        have c1 := ck c1 hb
        have HO := Lib.hid ho
        have HB := Lib.hid hb
        have HMk := Lib.hid (HMB.out k)
        have HSk := Lib.hid (HSuc.out k)
        have HBk := Lib.hid (HB2.out k hk)
        have HRk := Lib.hid (HRow.out k hkl)
        clear ho hb
        generalize f.getD k 0 = x at *
        go_wp2_with fail
        go_loopw [34] (fun i wi => ∃ j : Nat, j ≤ hl ∧ i = .int .i64 j ∧ wi.ownsRow w.heap.size 3 1 (.slice (some ⟨w.heap.size, 0, none⟩) n n) n (ints (tab n fun t => muF f h k j t)) ∧ Below w.heap.size w wi) (fun i _ => hl - (intOf i).toNat)
        case atStart => exact ⟨0, Nat.zero_le _, rfl, HO.out, HB.out⟩
        case round =>
          rename World => wi
          clear HO HB
          obtain ⟨j, hj, rfl, ho, hb⟩ := hrel
          by_cases hjl : j < hl
          · obtain ⟨b2, o2, rfl, d1⟩ := HHX.out j hjl
            have d1 := ck d1 hb
            have hkj : k + j < n := by omega
            have t0 := World.ownsRow.cellAt ho (k + j) (by omega)
            rw [tabI_get _ hkj] at t0
            have t1 := World.ownsRow.frozenAt ho (k + j)
            have hxy := HMk.out j
            have hz := HBk.out j (k + j)
            have hz2' := HBk.out (j + 1) (k + j)
            rw [HSk.out j (k + j), if_pos rfl] at hz2'
            have hst := (World.ownsRow.stored ho (k + j) (.int .i64 (muF f h k j (k + j) + x * h.getD j 0))).1
            rw [tabI_set (G := fun t => muF f h k (j + 1) t) _ fun i hi => by
              show muF f h k (j + 1) i = _
              rw [HSk.out j i]
              by_cases e : i = k + j
              · rw [if_pos e, if_pos e, e]
              · rw [if_neg e, if_neg e]] at hst
            have HST := Lib.hid hst
            have HBS := Lib.hid (below_cell hb (a := ⟨w.heap.size, k + j, none⟩) (Nat.le_refl _) (.int .i64 (muF f h k j (k + j) + x * h.getD j 0)))
            clear ho hb hst
            generalize muF f h k j (k + j) = z at *
            generalize h.getD j 0 = y at *
            have hw1 : IntKind.i64.wrap (x * y) = x * y := IntWalk.i64_in _ (by omega)
            have hw2 : IntKind.i64.wrap (z + x * y) = z + x * y := IntWalk.i64_in _ (by omega)
            have hw3 : wrap64 (x * y) = x * y := wrap_in (by omega) (by omega)
            have hw4 : wrap64 (z + x * y) = z + x * y := wrap_in (by omega) (by omega)
            go_wp2_with fail
            go_roundw
            case rel => exact ⟨j + 1, by omega, by go_num, HST.out, HBS.out⟩
            case measure => simp [intOf]; omega
          · have hjj : j = hl := by omega
            have hnl : ¬ (j : Int) < (hl : Int) := by omega
            have HO2 : Hid (wi.ownsRow w.heap.size 3 1 (.slice (some ⟨w.heap.size, 0, none⟩) n n) n (ints (tab n fun t => muF f h (k + 1) 0 t))) := Lib.hid (by
              rw [hjj] at ho
              rwa [show tab n (fun t => muF f h (k + 1) 0 t) = tab n (fun t => muF f h k hl t) from tab_congr fun i _ => (HRk.out i).symm])
            have HB3 := Lib.hid hb
            clear ho hb hjj
            go_wp2_with fail
            go_roundw
            case rel => exact ⟨k + 1, by omega, by go_num, HO2.out, HB3.out⟩
            case measure => simp [intOf]; omega
      · have hkk : k = fl := by omega
        have hnl : ¬ (k : Int) < (fl : Int) := by omega
        have HI : Hid (Ints wr (.slice (some ⟨w.heap.size, 0, none⟩) (muL f h).length n) (muL f h)) := Lib.hid (by
          rw [hkk] at ho
          rw [show tab n (fun t => muF f h fl 0 t) = muL f h from HEnd.out] at ho
          rw [HLn.out]
          refine Ints.of_owns ho (by omega) fun c hc => ?_
          rw [← HEnd.out] at hc
          obtain ⟨i, _, rfl⟩ := List.mem_map.1 hc
          have := HB2.out fl (Nat.le_refl _) 0 i
          unfold I64; omega)
        have HB9 := Lib.hid hb
        clear ho hb hkk
        go_wp2_with fail
        refine bodyPost_ret (results_tmp rfl _ _ _) rfl ⟨some ⟨w.heap.size, 0, none⟩, n, by rw [HE.out, HLn.out]; rfl, by rw [HE.out]; exact HI.out, HB9.out⟩
end Go.Proofs.Ytlnbodpdgebflaa

namespace Go.Proofs.Ytlnbodpdgebflaa
open Go.RowKit

theorem adF_row (f h : List Int) {n : Nat} (hn : f.length ≤ n) : splice (ints (tab n fun _ => 0)) 0 (ints f) = ints (tab n (adF f h 0)) := by
  unfold splice
  apply List.ext_getElem?
  intro i
  rw [List.take_zero, List.nil_append, Nat.zero_add, ints_length]
  by_cases hi : i < n
  · rw [tabI_get _ hi]
    by_cases hf : i < f.length
    · rw [List.getElem?_append_left (by rw [ints_length]; exact hf)]
      simp [ints, adF, hf]
    · rw [List.getElem?_append_right (by rw [ints_length]; omega), ints_length, List.getElem?_drop, show f.length + (i - f.length) = i by omega, tabI_get _ hi]
      simp [adF, List.getD_eq_getElem?_getD, List.getElem?_eq_none (show f.length ≤ i by omega)]
  · rw [List.getElem?_eq_none (by rw [List.length_append, ints_length, List.length_drop, tabI_len]; omega), List.getElem?_eq_none (by rw [tabI_len]; omega)]
theorem own_of_heap {w : World} {B g n : Nat} {xs : List Value} (hg : w.heap[g]? = some (.cells xs.toArray 3 (0, 0))) (hB : B ≤ g) (hn : xs.length = n) (hm : n ≤ 1000) : w.ownsRow B 3 1 (.slice (some ⟨g, 0, none⟩) n n) n xs :=
  ⟨by omega, .inr ⟨g, n, xs.toArray, rfl, hB, hg, Nat.le_refl _, by unfold maxLen; omega, by simp [hn], by simp [← hn]⟩⟩

set_option maxRecDepth 20000 in
set_option maxHeartbeats 2000000 in
theorem plus_lo (v v' : Value) (f h : List Int) (w : World) (hf : Ints w v f) (hh : Ints w v' h) (lf : f.length ≤ 130) (lh : h.length ≤ 130) (bf : Bnd 100000000000000 f) (bh : Bnd 100000000000000 h) (hle : f.length < h.length) :
    Calls Try.prog 104 #[v, v'] w fun e w' => ∃ a c, e = .returned (.slice a (plusL f h).length c) ∧ Ints w' (.slice a (plusL f h).length c) (plusL f h) ∧ Below w.heap.size w w' := by
    obtain ⟨fo, fc, rfl, hf1, _, hfx⟩ := hf.open
    obtain ⟨ho, hc, rfl, hh1, _, hhx⟩ := hh.open
    have HFX := Lib.hid hfx
    have HHX := Lib.hid hhx
    have HBF := Lib.hid bf.get
    have HBH := Lib.hid bh.get
    have HSuc := Lib.hid (fun k i => adF_succ f h k i)
    have HRw := Lib.hid (fun n (hn : f.length ≤ n) => adF_row f h hn)
    have HTr := Lib.hid (fun v l W hv => trim_any v l W hv)
    obtain ⟨fl, hfl⟩ : ∃ fl, fl = f.length := ⟨_, rfl⟩
    obtain ⟨hl, hhl⟩ : ∃ hl, hl = h.length := ⟨_, rfl⟩
    rw [← hfl, ← hhl] at hle
    rw [← hfl] at HFX HRw hf1 lf
    rw [← hhl] at HHX hh1 lh
    rw [← hfl, ← hhl]
    have HFL := Lib.hid hfl
    have HHL := Lib.hid hhl
    have _ := lh
    clear hf hh bf bh hfx hhx hfl hhl
    obtain ⟨n, hn⟩ : ∃ n, n = hl := ⟨_, rfl⟩
    have hfn : fl ≤ n := by omega
    have hhn : hl ≤ n := by omega
    have hmx : max (fl : Int) (hl : Int) = (n : Int) := by omega
    have hq1 : (fl : Int) < (hl : Int) := by omega
    have hq2 : ¬ (hl : Int) ≤ (fl : Int) := by omega
    have hnI : (hl : Int) = (n : Int) := by omega
    have hnx : n ≤ fl ∨ n ≤ hl := .inr (by omega)
    clear hn
    have HNM : Hid (n = max f.length h.length) := Lib.hid (by rw [← HFL.out, ← HHL.out]; omega)
    have HEnd : Hid (tab n (adF f h hl) = adL f h) := Lib.hid (by rw [HNM.out, HHL.out]; exact adF_end f h)
    have hmk := run_makeP n (by omega)
    have HRW : Hid ((w.alloc (.cells (ints (tab n fun _ => 0)).toArray 3)).heap[w.heap.size]? = some (.cells (ints (tab n fun _ => 0)).toArray 3 (0, 0))) := Lib.hid (by
      obtain ⟨_, r⟩ := ownP_made n (by omega) w
      show (w.heap.push _)[_]? = _
      simp)
    have HPOS : Hid (0 < (ints f).length → (some (⟨w.heap.size, 0, none⟩ : Addr)) = some ⟨w.heap.size, 0, none⟩ ∧ ∃ ad, fo = some ad ∧ ∀ j v, (ints f)[j]? = some v → (w.alloc (.cells (ints (tab n fun _ => 0)).toArray 3)).cell? (ad.add j) = some v) := Lib.hid (fun h0 => by
      rw [ints_length, ← HFL.out] at h0
      obtain ⟨b, o, e, _⟩ := HFX.out 0 h0
      refine ⟨rfl, _, e, fun j v hj => ?_⟩
      have hjl := (List.getElem?_eq_some_iff.1 hj).1
      rw [ints_length, ← HFL.out] at hjl
      obtain ⟨b', o', e', c'⟩ := HFX.out j hjl
      rw [e] at e'
      simp only [Option.some.injEq, Addr.mk.injEq, and_true] at e'
      obtain ⟨rfl, rfl⟩ := e'
      rw [Addr.add_lit, ck c' (a1 w _), ← hj]
      rw [HFL.out] at hjl
      simp [ints, List.getElem?_eq_getElem hjl, List.getD_eq_getElem?_getD])
    go_enter Try.func104, Try.ntmps104
    go_wp2_with (first
      | (refine wpList_copy_splice rfl _ _ 106 106 rfl 3 Try.underlying106 (by kernel_rfl) (some ⟨w.heap.size, 0, none⟩) fo n n fl fc rfl rfl w.heap.size 0 (ints (tab n fun _ => 0)) 3 HRW.out (ints f) (by rw [ints_length, ← HFL.out]; show fl = min fl n; omega) HPOS.out (by rw [ints_length, ints_length, tab_len, ← HFL.out]; omega) (ints_oneCell _) w.heap.size w (a1 w _) (Nat.le_refl _) ?_
         intro w2 hg2 hb2)
      | fail)
    have HO : Hid (w2.ownsRow w.heap.size 3 1 (.slice (some ⟨w.heap.size, 0, none⟩) n n) n (ints (tab n (adF f h 0)))) := Lib.hid (by
      have h9 := hg2.out
      rw [HRw.out n hfn] at h9
      exact own_of_heap h9 (Nat.le_refl _) (tabI_len _ _) (by omega))
    have HB := Lib.hid hb2
    clear hg2 hb2
    go_wp2_with fail
    go_loopw [19] (fun i wr => ∃ k : Nat, k ≤ hl ∧ i = .int .i64 k ∧ wr.ownsRow w.heap.size 3 1 (.slice (some ⟨w.heap.size, 0, none⟩) n n) n (ints (tab n (adF f h k))) ∧ Below w.heap.size w wr) (fun i _ => hl - (intOf i).toNat)
    case atStart => exact ⟨0, Nat.zero_le _, rfl, HO.out, HB.out⟩
    case round =>
      clear HO HB
      obtain ⟨k, hk, rfl, ho2, hb⟩ := hrel
      by_cases hkl : k < hl
      · obtain ⟨b2, o2, rfl, d1⟩ := HHX.out k hkl
        have d1 := ck d1 hb
        have hkn : k < n := by omega
        have t0 := World.ownsRow.cellAt ho2 k (by omega)
        rw [tabI_get _ hkn] at t0
        have t1 := World.ownsRow.frozenAt ho2 k
        have hz0 : adF f h k k = f.getD k 0 := by unfold adF; rw [if_neg (Nat.lt_irrefl _)]; omega
        have hb1 := HBF.out k
        have hb2 := HBH.out k
        have hst := (World.ownsRow.stored ho2 k (.int .i64 (adF f h k k + h.getD k 0))).1
        rw [tabI_set (G := adF f h (k + 1)) _ fun i hi => by
          rw [HSuc.out k i]
          by_cases e : i = k
          · rw [if_pos e, if_pos e, e]
          · rw [if_neg e, if_neg e]] at hst
        have HST := Lib.hid hst
        have HBS := Lib.hid (below_cell hb (a := ⟨w.heap.size, k, none⟩) (Nat.le_refl _) (.int .i64 (adF f h k k + h.getD k 0)))
        clear ho2 hb hst
        rw [hz0] at t0 HST HBS
        clear hz0
        generalize f.getD k 0 = z at *
        generalize h.getD k 0 = y at *
        have hw4 : wrap64 (z + y) = z + y := wrap_in (by omega) (by omega)
        go_wp2_with fail
        go_roundw
        case rel => exact ⟨k + 1, by omega, by go_num, HST.out, HBS.out⟩
        case measure => simp [intOf]; omega
      · have hkk : k = hl := by omega
        have hnl : ¬ (k : Int) < (hl : Int) := by omega
        have HI : Hid (Ints wr (.slice (some ⟨w.heap.size, 0, none⟩) n n) (adL f h)) := Lib.hid (by
          rw [hkk, HEnd.out] at ho2
          refine Ints.of_owns ho2 (by omega) fun c hc9 => ?_
          obtain ⟨i, hi, rfl⟩ := List.getElem_of_mem hc9
          have h8 := adL_get f h i
          rw [List.getD_eq_getElem?_getD, List.getElem?_eq_getElem hi] at h8
          simp only [Option.getD_some] at h8
          have := HBF.out i
          have := HBH.out i
          unfold I64; omega)
        have HT := Lib.hid (HTr.out _ _ wr HI.out)
        have HB9 := Lib.hid hb
        clear ho2 hb hkk
        go_wp2_with fail
        refine HT.out.mono ?_
        rintro e w9 ⟨a9, c9, rfl, hi9, rfl⟩
        have HI9 := Lib.hid hi9
        clear hi9
        go_wp2_with fail
        refine bodyPost_ret (results_tmp rfl _ _ _) rfl ⟨a9, c9, rfl, HI9.out, HB9.out⟩

set_option maxRecDepth 20000 in
set_option maxHeartbeats 2000000 in
theorem plus_hi (v v' : Value) (f h : List Int) (w : World) (hf : Ints w v f) (hh : Ints w v' h) (lf : f.length ≤ 130) (lh : h.length ≤ 130) (bf : Bnd 100000000000000 f) (bh : Bnd 100000000000000 h) (hle : ¬ f.length < h.length) :
    Calls Try.prog 104 #[v, v'] w fun e w' => ∃ a c, e = .returned (.slice a (plusL f h).length c) ∧ Ints w' (.slice a (plusL f h).length c) (plusL f h) ∧ Below w.heap.size w w' := by
    obtain ⟨fo, fc, rfl, hf1, _, hfx⟩ := hf.open
    obtain ⟨ho, hc, rfl, hh1, _, hhx⟩ := hh.open
    have HFX := Lib.hid hfx
    have HHX := Lib.hid hhx
    have HBF := Lib.hid bf.get
    have HBH := Lib.hid bh.get
    have HSuc := Lib.hid (fun k i => adF_succ f h k i)
    have HRw := Lib.hid (fun n (hn : f.length ≤ n) => adF_row f h hn)
    have HTr := Lib.hid (fun v l W hv => trim_any v l W hv)
    obtain ⟨fl, hfl⟩ : ∃ fl, fl = f.length := ⟨_, rfl⟩
    obtain ⟨hl, hhl⟩ : ∃ hl, hl = h.length := ⟨_, rfl⟩
    rw [← hfl, ← hhl] at hle
    rw [← hfl] at HFX HRw hf1 lf
    rw [← hhl] at HHX hh1 lh
    rw [← hfl, ← hhl]
    have HFL := Lib.hid hfl
    have HHL := Lib.hid hhl
    have _ := lh
    clear hf hh bf bh hfx hhx hfl hhl
    obtain ⟨n, hn⟩ : ∃ n, n = fl := ⟨_, rfl⟩
    have hfn : fl ≤ n := by omega
    have hhn : hl ≤ n := by omega
    have hmx : max (fl : Int) (hl : Int) = (n : Int) := by omega
    have hq1 : ¬ (fl : Int) < (hl : Int) := by omega
    have hq2 : (hl : Int) ≤ (fl : Int) := by omega
    have hnI : (fl : Int) = (n : Int) := by omega
    have hnx : n ≤ fl ∨ n ≤ hl := .inl (by omega)
    clear hn
    have HNM : Hid (n = max f.length h.length) := Lib.hid (by rw [← HFL.out, ← HHL.out]; omega)
    have HEnd : Hid (tab n (adF f h hl) = adL f h) := Lib.hid (by rw [HNM.out, HHL.out]; exact adF_end f h)
    have hmk := run_makeP n (by omega)
    have HRW : Hid ((w.alloc (.cells (ints (tab n fun _ => 0)).toArray 3)).heap[w.heap.size]? = some (.cells (ints (tab n fun _ => 0)).toArray 3 (0, 0))) := Lib.hid (by
      obtain ⟨_, r⟩ := ownP_made n (by omega) w
      show (w.heap.push _)[_]? = _
      simp)
    have HPOS : Hid (0 < (ints f).length → (some (⟨w.heap.size, 0, none⟩ : Addr)) = some ⟨w.heap.size, 0, none⟩ ∧ ∃ ad, fo = some ad ∧ ∀ j v, (ints f)[j]? = some v → (w.alloc (.cells (ints (tab n fun _ => 0)).toArray 3)).cell? (ad.add j) = some v) := Lib.hid (fun h0 => by
      rw [ints_length, ← HFL.out] at h0
      obtain ⟨b, o, e, _⟩ := HFX.out 0 h0
      refine ⟨rfl, _, e, fun j v hj => ?_⟩
      have hjl := (List.getElem?_eq_some_iff.1 hj).1
      rw [ints_length, ← HFL.out] at hjl
      obtain ⟨b', o', e', c'⟩ := HFX.out j hjl
      rw [e] at e'
      simp only [Option.some.injEq, Addr.mk.injEq, and_true] at e'
      obtain ⟨rfl, rfl⟩ := e'
      rw [Addr.add_lit, ck c' (a1 w _), ← hj]
      rw [HFL.out] at hjl
      simp [ints, List.getElem?_eq_getElem hjl, List.getD_eq_getElem?_getD])
    go_enter Try.func104, Try.ntmps104
    go_wp2_with (first
      | (refine wpList_copy_splice rfl _ _ 106 106 rfl 3 Try.underlying106 (by kernel_rfl) (some ⟨w.heap.size, 0, none⟩) fo n n fl fc rfl rfl w.heap.size 0 (ints (tab n fun _ => 0)) 3 HRW.out (ints f) (by rw [ints_length, ← HFL.out]; show fl = min fl n; omega) HPOS.out (by rw [ints_length, ints_length, tab_len, ← HFL.out]; omega) (ints_oneCell _) w.heap.size w (a1 w _) (Nat.le_refl _) ?_
         intro w2 hg2 hb2)
      | fail)
    have HO : Hid (w2.ownsRow w.heap.size 3 1 (.slice (some ⟨w.heap.size, 0, none⟩) n n) n (ints (tab n (adF f h 0)))) := Lib.hid (by
      have h9 := hg2.out
      rw [HRw.out n hfn] at h9
      exact own_of_heap h9 (Nat.le_refl _) (tabI_len _ _) (by omega))
    have HB := Lib.hid hb2
    clear hg2 hb2
    go_wp2_with fail
    go_loopw [19] (fun i wr => ∃ k : Nat, k ≤ hl ∧ i = .int .i64 k ∧ wr.ownsRow w.heap.size 3 1 (.slice (some ⟨w.heap.size, 0, none⟩) n n) n (ints (tab n (adF f h k))) ∧ Below w.heap.size w wr) (fun i _ => hl - (intOf i).toNat)
    case atStart => exact ⟨0, Nat.zero_le _, rfl, HO.out, HB.out⟩
    case round =>
      clear HO HB
      obtain ⟨k, hk, rfl, ho2, hb⟩ := hrel
      by_cases hkl : k < hl
      · obtain ⟨b2, o2, rfl, d1⟩ := HHX.out k hkl
        have d1 := ck d1 hb
        have hkn : k < n := by omega
        have t0 := World.ownsRow.cellAt ho2 k (by omega)
        rw [tabI_get _ hkn] at t0
        have t1 := World.ownsRow.frozenAt ho2 k
        have hz0 : adF f h k k = f.getD k 0 := by unfold adF; rw [if_neg (Nat.lt_irrefl _)]; omega
        have hb1 := HBF.out k
        have hb2 := HBH.out k
        have hst := (World.ownsRow.stored ho2 k (.int .i64 (adF f h k k + h.getD k 0))).1
        rw [tabI_set (G := adF f h (k + 1)) _ fun i hi => by
          rw [HSuc.out k i]
          by_cases e : i = k
          · rw [if_pos e, if_pos e, e]
          · rw [if_neg e, if_neg e]] at hst
        have HST := Lib.hid hst
        have HBS := Lib.hid (below_cell hb (a := ⟨w.heap.size, k, none⟩) (Nat.le_refl _) (.int .i64 (adF f h k k + h.getD k 0)))
        clear ho2 hb hst
        rw [hz0] at t0 HST HBS
        clear hz0
        generalize f.getD k 0 = z at *
        generalize h.getD k 0 = y at *
        have hw4 : wrap64 (z + y) = z + y := wrap_in (by omega) (by omega)
        go_wp2_with fail
        go_roundw
        case rel => exact ⟨k + 1, by omega, by go_num, HST.out, HBS.out⟩
        case measure => simp [intOf]; omega
      · have hkk : k = hl := by omega
        have hnl : ¬ (k : Int) < (hl : Int) := by omega
        have HI : Hid (Ints wr (.slice (some ⟨w.heap.size, 0, none⟩) n n) (adL f h)) := Lib.hid (by
          rw [hkk, HEnd.out] at ho2
          refine Ints.of_owns ho2 (by omega) fun c hc9 => ?_
          obtain ⟨i, hi, rfl⟩ := List.getElem_of_mem hc9
          have h8 := adL_get f h i
          rw [List.getD_eq_getElem?_getD, List.getElem?_eq_getElem hi] at h8
          simp only [Option.getD_some] at h8
          have := HBF.out i
          have := HBH.out i
          unfold I64; omega)
        have HT := Lib.hid (HTr.out _ _ wr HI.out)
        have HB9 := Lib.hid hb
        clear ho2 hb hkk
        go_wp2_with fail
        refine HT.out.mono ?_
        rintro e w9 ⟨a9, c9, rfl, hi9, rfl⟩
        have HI9 := Lib.hid hi9
        clear hi9
        go_wp2_with fail
        refine bodyPost_ret (results_tmp rfl _ _ _) rfl ⟨a9, c9, rfl, HI9.out, HB9.out⟩

theorem plus_any (v v' : Value) (f h : List Int) (w : World) (hf : Ints w v f) (hh : Ints w v' h) (lf : f.length ≤ 130) (lh : h.length ≤ 130) (bf : Bnd 100000000000000 f) (bh : Bnd 100000000000000 h) :
    Calls Try.prog 104 #[v, v'] w fun e w' => ∃ a c, e = .returned (.slice a (plusL f h).length c) ∧ Ints w' (.slice a (plusL f h).length c) (plusL f h) ∧ Below w.heap.size w w' := by
  by_cases hle : f.length < h.length
  · exact plus_lo v v' f h w hf hh lf lh bf bh hle
  · exact plus_hi v v' f h w hf hh lf lh bf bh hle
end Go.Proofs.Ytlnbodpdgebflaa

namespace Go.Proofs.Ytlnbodpdgebflaa
open Go.RowKit

set_option maxHeartbeats 1000000 in
theorem trimmed_any (v : Value) (l : List Int) (w : World) (h : Ints w v l) :
    Calls Try.prog 89 #[v] w fun e w' => ∃ a c, e = .returned (.slice a (trL l).length c) ∧ Ints w (.slice a (trL l).length c) (trL l) ∧ w = w' := by
  obtain ⟨ao, cap, rfl, h1, h2, hx⟩ := h.open
  have HX := Lib.hid hx
  have HI := Lib.hid h
  clear hx h
  go_enter Try.func89, Try.ntmps89
  go_wp2_with fail
  go_loop [0] (fun v => ∃ k : Nat, k ≤ l.length ∧ v = .slice ao k cap ∧ Hid (trL (l.take k) = trL l)) (fun v => vlen v)
  case atStart => exact ⟨l.length, Nat.le_refl _, rfl, Lib.hid (by rw [List.take_length])⟩
  case round =>
    obtain ⟨k, hk, rfl, hT⟩ := hrel
    by_cases h0 : k = 0
    · subst h0
      have HE : Hid (trL l = []) := Lib.hid (by rw [← hT.out]; rfl)
      go_wp2_with fail
      refine bodyPost_ret (results_tmp rfl _ _ _) rfl ⟨ao, cap, by rw [HE.out]; rfl, ?_, rfl⟩
      rw [HE.out]
      exact HI.out.take (k := 0) (Nat.zero_le _)
    · obtain ⟨q, rfl⟩ : ∃ q, k = q + 1 := ⟨k - 1, by omega⟩
      obtain ⟨b, o, rfl, c1⟩ := HX.out q (by omega)
      have hq1 : ((q + 1 : Nat) : Int) - 1 = (q : Int) := by omega
      by_cases hz : l.getD q 0 = 0
      · have HT2 : Hid (trL (l.take q) = trL l) := Lib.hid (by rw [← trL_take (by omega) hz]; exact hT.out)
        rw [hz] at c1
        go_wp2_with fail
        go_round
        case rel => exact ⟨q, by omega, by go_num, HT2⟩
        case measure => simp [vlen]
      · have HE : Hid (trL l = l.take (q + 1)) := Lib.hid (by rw [← hT.out]; exact trL_stop (by omega) hz)
        have hlen : (l.take (q + 1)).length = q + 1 := by rw [List.length_take]; omega
        generalize l.getD q 0 = z at *
        have hzb : (z == 0) = false := beq_eq_false_iff_ne.2 hz
        go_wp2_with fail
        refine bodyPost_ret (results_tmp rfl _ _ _) rfl ⟨some ⟨b, o, none⟩, cap, by rw [HE.out, hlen]; rfl, ?_, rfl⟩
        rw [HE.out, hlen]
        exact HI.out.take (by omega)

theorem run_makeR (n : Nat) (hn : n ≤ 1000) (W : World) : (Instr.makeSlice 24 (.int .i64 n) (.int .i64 n)).run Try.prog W = .ok (.slice (some ⟨W.heap.size, 0, none⟩) n n) (W.alloc (.cells (ints (tab n fun _ => 0)).toArray 3)) := by
  rw [run_make_row' (P := Try.prog) 24 3 (.int .i64 0) 8 Try.underlying24 Try.info3 rfl .i64 .i64 n (by omega) (by omega) W]
  have e : madeCells #[Value.int .i64 0] n = (ints (tab n fun _ => 0)).toArray := by
    apply Array.ext'
    rw [toList_madeCells_one]
    exact (List.eq_replicate_iff.2 ⟨by simp [ints, tab], fun b hb => by
      obtain ⟨x, hx, rfl⟩ := List.mem_map.1 hb
      obtain ⟨j, _, rfl⟩ := List.mem_map.1 hx
      rfl⟩).symm
  rw [e]
/-- The sum as it grows: k of q are added, t times, from s on. -/
def adG (p q : List Int) (t : Int) (s k : Nat) : Nat → Int := fun i => p.getD i 0 + if s ≤ i ∧ i < s + k then t * q.getD (i - s) 0 else 0
theorem shfL_len : ∀ (n : Nat) (l : List Int), (shfL n l).length = n + l.length
  | 0, l => by simp [shfL]
  | n + 1, l => by simp [shfL, shfL_len n l]; omega
theorem shfL_get : ∀ (n : Nat) (l : List Int) (i : Nat), (shfL n l).getD i 0 = if i < n then 0 else l.getD (i - n) 0
  | 0, l, i => by simp [shfL]
  | n + 1, l, 0 => by simp [shfL]
  | n + 1, l, i + 1 => by
    have := shfL_get n l i
    simp only [shfL, List.getD_cons_succ]
    rw [this]
    by_cases e : i < n
    · rw [if_pos e, if_pos (by omega)]
    · rw [if_neg e, if_neg (by omega), show i + 1 - (n + 1) = i - n by omega]
theorem sh_bd {M K : Nat} {t : Int} {q : List Int} (h1 : -(M : Int) ≤ t ∧ t ≤ M) (h2 : ∀ i, -(K : Int) ≤ q.getD i 0 ∧ q.getD i 0 ≤ K) (s i : Nat) : -((M * K : Nat) : Int) ≤ (shfL s (q.map (t * ·))).getD i 0 ∧ (shfL s (q.map (t * ·))).getD i 0 ≤ ((M * K : Nat) : Int) := by
  rw [shfL_get]
  split
  · omega
  · rw [map_get]; exact mul_bd' h1 (h2 _)
theorem adG_end (p q : List Int) (t : Int) (s : Nat) : tab (max p.length (q.length + s)) (adG p q t s q.length) = adL p (shfL s (q.map (t * ·))) := by
  refine list_ext (by rw [tab_len, adL_len, shfL_len, List.length_map]; omega) fun i hi => ?_
  rw [tab_len] at hi
  rw [tab_get _ hi, adL_get, shfL_get]
  unfold adG
  by_cases e : i < s
  · rw [if_pos e, if_neg (by omega)]
  · rw [if_neg e, map_get]
    by_cases c : i < s + q.length
    · rw [if_pos ⟨by omega, c⟩]
    · rw [if_neg (by omega), List.getD_eq_getElem?_getD (l := q), List.getElem?_eq_none (by omega)]; simp
theorem adG_succ (p q : List Int) (t : Int) (s k i : Nat) : adG p q t s (k + 1) i = if i = k + s then adG p q t s k i + t * q.getD k 0 else adG p q t s k i := by
  unfold adG
  by_cases e : i = k + s
  · subst e; rw [if_pos (by omega), if_pos rfl, if_neg (by omega), show k + s - s = k by omega]; omega
  · rw [if_neg e]
    by_cases c : s ≤ i ∧ i < s + k
    · rw [if_pos (by omega), if_pos c]
    · rw [if_neg (by omega), if_neg c]
theorem adG_row (p q : List Int) (t : Int) (s : Nat) {n : Nat} (hn : p.length ≤ n) : splice (ints (tab n fun _ => 0)) 0 (ints p) = ints (tab n (adG p q t s 0)) := by
  rw [adF_row p q hn, show tab n (adF p q 0) = tab n (adG p q t s 0) from tab_congr fun i _ => by simp [adF, adG]; omega]

set_option maxRecDepth 20000 in
set_option maxHeartbeats 2000000 in
theorem add_lo (v v' : Value) (f h : List Int) (w : World) (hf : Ints w v f) (hh : Ints w v' h) (lf : f.length ≤ 130) (lh : h.length ≤ 130) (bf : Bnd 100000000000000 f) (bh : Bnd 1000000 h) (t : Int) (ht : -1000000 ≤ t ∧ t ≤ 1000000) (s : Nat) (hs : s ≤ 64) (hle : f.length < h.length + s) :
    Calls Try.prog 88 #[v, v', .int .i64 t, .int .i64 s] w fun e w' => ∃ a c, e = .returned (.slice a (addL f h t s).length c) ∧ Ints w' (.slice a (addL f h t s).length c) (addL f h t s) ∧ Below w.heap.size w w' := by
    obtain ⟨fo, fc, rfl, hf1, _, hfx⟩ := hf.open
    obtain ⟨ho, hc, rfl, hh1, _, hhx⟩ := hh.open
    have HFX := Lib.hid hfx
    have HHX := Lib.hid hhx
    have HBF := Lib.hid bf.get
    have HBH := Lib.hid bh.get
    have HSuc := Lib.hid (fun k i => adG_succ f h t s k i)
    have HRw := Lib.hid (fun n (hn : f.length ≤ n) => adG_row f h t s hn)
    have HTr := Lib.hid (fun v l W hv => trimmed_any v l W hv)
    obtain ⟨fl, hfl⟩ : ∃ fl, fl = f.length := ⟨_, rfl⟩
    obtain ⟨hl, hhl⟩ : ∃ hl, hl = h.length := ⟨_, rfl⟩
    rw [← hfl, ← hhl] at hle
    rw [← hfl] at HFX HRw hf1 lf
    rw [← hhl] at HHX hh1 lh
    rw [← hfl, ← hhl]
    have HFL := Lib.hid hfl
    have HHL := Lib.hid hhl
    have _ := lh
    have _ := lf
    clear hf hh bf bh hfx hhx hfl hhl
    obtain ⟨n, hn⟩ : ∃ n, n = hl + s := ⟨_, rfl⟩
    have hfn : fl ≤ n := by omega
    have hhn : hl + s ≤ n := by omega
    have hmx : max (fl : Int) ((hl : Int) + (s : Int)) = (n : Int) := by omega
    have hq1 : (fl : Int) < (hl : Int) + (s : Int) := by omega
    have hq2 : ¬ (hl : Int) + (s : Int) ≤ (fl : Int) := by omega
    have hnI : (hl : Int) + (s : Int) = (n : Int) := by omega
    have hnx : n ≤ fl ∨ n ≤ hl + s := .inr (by omega)
    clear hn
    have HNM : Hid (n = max f.length (h.length + s)) := Lib.hid (by rw [← HFL.out, ← HHL.out]; omega)
    have HEnd : Hid (tab n (adG f h t s hl) = adL f (shfL s (h.map (t * ·)))) := Lib.hid (by rw [HNM.out, HHL.out]; exact adG_end f h t s)
    have hmk := run_makeR n (by omega)
    have HRW : Hid ((w.alloc (.cells (ints (tab n fun _ => 0)).toArray 3)).heap[w.heap.size]? = some (.cells (ints (tab n fun _ => 0)).toArray 3 (0, 0))) := Lib.hid (by
      obtain ⟨_, r⟩ := ownP_made n (by omega) w
      show (w.heap.push _)[_]? = _
      simp)
    have HPOS : Hid (0 < (ints f).length → (some (⟨w.heap.size, 0, none⟩ : Addr)) = some ⟨w.heap.size, 0, none⟩ ∧ ∃ ad, fo = some ad ∧ ∀ j v, (ints f)[j]? = some v → (w.alloc (.cells (ints (tab n fun _ => 0)).toArray 3)).cell? (ad.add j) = some v) := Lib.hid (fun h0 => by
      rw [ints_length, ← HFL.out] at h0
      obtain ⟨b, o, e, _⟩ := HFX.out 0 h0
      refine ⟨rfl, _, e, fun j v hj => ?_⟩
      have hjl := (List.getElem?_eq_some_iff.1 hj).1
      rw [ints_length, ← HFL.out] at hjl
      obtain ⟨b', o', e', c'⟩ := HFX.out j hjl
      rw [e] at e'
      simp only [Option.some.injEq, Addr.mk.injEq, and_true] at e'
      obtain ⟨rfl, rfl⟩ := e'
      rw [Addr.add_lit, ck c' (a1 w _), ← hj]
      rw [HFL.out] at hjl
      simp [ints, List.getElem?_eq_getElem hjl, List.getD_eq_getElem?_getD])
    go_enter Try.func88, Try.ntmps88
    go_wp2_with (first
      | (refine wpList_copy_splice rfl _ _ 24 24 rfl 3 Try.underlying24 (by kernel_rfl) (some ⟨w.heap.size, 0, none⟩) fo n n fl fc rfl rfl w.heap.size 0 (ints (tab n fun _ => 0)) 3 HRW.out (ints f) (by rw [ints_length, ← HFL.out]; show fl = min fl n; omega) HPOS.out (by rw [ints_length, ints_length, tab_len, ← HFL.out]; omega) (ints_oneCell _) w.heap.size w (a1 w _) (Nat.le_refl _) ?_
         intro w2 hg2 hb2)
      | fail)
    have HO : Hid (w2.ownsRow w.heap.size 3 1 (.slice (some ⟨w.heap.size, 0, none⟩) n n) n (ints (tab n (adG f h t s 0)))) := Lib.hid (by
      have h9 := hg2.out
      rw [HRw.out n hfn] at h9
      exact own_of_heap h9 (Nat.le_refl _) (tabI_len _ _) (by omega))
    have HB := Lib.hid hb2
    clear hg2 hb2
    go_wp2_with fail
    go_loopw [25] (fun i wr => ∃ k : Nat, k ≤ hl ∧ i = .int .i64 k ∧ wr.ownsRow w.heap.size 3 1 (.slice (some ⟨w.heap.size, 0, none⟩) n n) n (ints (tab n (adG f h t s k))) ∧ Below w.heap.size w wr) (fun i _ => hl - (intOf i).toNat)
    case atStart => exact ⟨0, Nat.zero_le _, rfl, HO.out, HB.out⟩
    case round =>
      clear HO HB
      obtain ⟨k, hk, rfl, ho2, hb⟩ := hrel
      by_cases hkl : k < hl
      · obtain ⟨b2, o2, rfl, d1⟩ := HHX.out k hkl
        have d1 := ck d1 hb
        have hkn : k + s < n := by omega
        have t0 := World.ownsRow.cellAt ho2 (k + s) (by omega)
        rw [tabI_get _ hkn] at t0
        have t1 := World.ownsRow.frozenAt ho2 (k + s)
        have hz0 : adG f h t s k (k + s) = f.getD (k + s) 0 := by unfold adG; rw [if_neg (by omega)]; omega
        have hb1 := HBF.out (k + s)
        have hb2 := HBH.out k
        have hst := (World.ownsRow.stored ho2 (k + s) (.int .i64 (adG f h t s k (k + s) + t * h.getD k 0))).1
        rw [tabI_set (G := adG f h t s (k + 1)) _ fun i hi => by
          rw [HSuc.out k i]
          by_cases e : i = k + s
          · rw [if_pos e, if_pos e, e]
          · rw [if_neg e, if_neg e]] at hst
        have HST := Lib.hid hst
        have HBS := Lib.hid (below_cell hb (a := ⟨w.heap.size, k + s, none⟩) (Nat.le_refl _) (.int .i64 (adG f h t s k (k + s) + t * h.getD k 0)))
        clear ho2 hb hst
        rw [hz0] at t0 HST HBS
        clear hz0
        generalize f.getD (k + s) 0 = z at *
        generalize h.getD k 0 = y at *
        have hty := mul_bd' (M := 1000000) (K := 1000000) (a := t) (b := y) (by omega) (by omega)
        have hw3 : wrap64 (t * y) = t * y := wrap_in (by omega) (by omega)
        have hw4 : wrap64 (z + t * y) = z + t * y := wrap_in (by omega) (by omega)
        go_wp2_with fail
        go_roundw
        case rel => exact ⟨k + 1, by omega, by go_num, HST.out, HBS.out⟩
        case measure => simp [intOf]; omega
      · have hkk : k = hl := by omega
        have hnl : ¬ (k : Int) < (hl : Int) := by omega
        have HI : Hid (Ints wr (.slice (some ⟨w.heap.size, 0, none⟩) n n) (adL f (shfL s (h.map (t * ·))))) := Lib.hid (by
          rw [hkk, HEnd.out] at ho2
          refine Ints.of_owns ho2 (by omega) fun c hc9 => ?_
          obtain ⟨i, hi, rfl⟩ := List.getElem_of_mem hc9
          have h8 := adL_get f (shfL s (h.map (t * ·))) i
          rw [List.getD_eq_getElem?_getD, List.getElem?_eq_getElem hi] at h8
          simp only [Option.getD_some] at h8
          have := HBF.out i
          have hsg := sh_bd (M := 1000000) (K := 1000000) ht HBH.out s i
          unfold I64; omega)
        have HT := Lib.hid (HTr.out _ _ wr HI.out)
        have HB9 := Lib.hid hb
        clear ho2 hb hkk
        go_wp2_with fail
        refine HT.out.mono ?_
        rintro e w9 ⟨a9, c9, rfl, hi9, rfl⟩
        have HI9 := Lib.hid hi9
        clear hi9
        go_wp2_with fail
        refine bodyPost_ret (results_tmp rfl _ _ _) rfl ⟨a9, c9, rfl, HI9.out, HB9.out⟩

set_option maxRecDepth 20000 in
set_option maxHeartbeats 2000000 in
theorem add_hi (v v' : Value) (f h : List Int) (w : World) (hf : Ints w v f) (hh : Ints w v' h) (lf : f.length ≤ 130) (lh : h.length ≤ 130) (bf : Bnd 100000000000000 f) (bh : Bnd 1000000 h) (t : Int) (ht : -1000000 ≤ t ∧ t ≤ 1000000) (s : Nat) (hs : s ≤ 64) (hle : ¬ f.length < h.length + s) :
    Calls Try.prog 88 #[v, v', .int .i64 t, .int .i64 s] w fun e w' => ∃ a c, e = .returned (.slice a (addL f h t s).length c) ∧ Ints w' (.slice a (addL f h t s).length c) (addL f h t s) ∧ Below w.heap.size w w' := by
    obtain ⟨fo, fc, rfl, hf1, _, hfx⟩ := hf.open
    obtain ⟨ho, hc, rfl, hh1, _, hhx⟩ := hh.open
    have HFX := Lib.hid hfx
    have HHX := Lib.hid hhx
    have HBF := Lib.hid bf.get
    have HBH := Lib.hid bh.get
    have HSuc := Lib.hid (fun k i => adG_succ f h t s k i)
    have HRw := Lib.hid (fun n (hn : f.length ≤ n) => adG_row f h t s hn)
    have HTr := Lib.hid (fun v l W hv => trimmed_any v l W hv)
    obtain ⟨fl, hfl⟩ : ∃ fl, fl = f.length := ⟨_, rfl⟩
    obtain ⟨hl, hhl⟩ : ∃ hl, hl = h.length := ⟨_, rfl⟩
    rw [← hfl, ← hhl] at hle
    rw [← hfl] at HFX HRw hf1 lf
    rw [← hhl] at HHX hh1 lh
    rw [← hfl, ← hhl]
    have HFL := Lib.hid hfl
    have HHL := Lib.hid hhl
    have _ := lh
    have _ := lf
    clear hf hh bf bh hfx hhx hfl hhl
    obtain ⟨n, hn⟩ : ∃ n, n = fl := ⟨_, rfl⟩
    have hfn : fl ≤ n := by omega
    have hhn : hl + s ≤ n := by omega
    have hmx : max (fl : Int) ((hl : Int) + (s : Int)) = (n : Int) := by omega
    have hq1 : ¬ (fl : Int) < (hl : Int) + (s : Int) := by omega
    have hq2 : (hl : Int) + (s : Int) ≤ (fl : Int) := by omega
    have hnI : (fl : Int) = (n : Int) := by omega
    have hnx : n ≤ fl ∨ n ≤ hl + s := .inl (by omega)
    clear hn
    have HNM : Hid (n = max f.length (h.length + s)) := Lib.hid (by rw [← HFL.out, ← HHL.out]; omega)
    have HEnd : Hid (tab n (adG f h t s hl) = adL f (shfL s (h.map (t * ·)))) := Lib.hid (by rw [HNM.out, HHL.out]; exact adG_end f h t s)
    have hmk := run_makeR n (by omega)
    have HRW : Hid ((w.alloc (.cells (ints (tab n fun _ => 0)).toArray 3)).heap[w.heap.size]? = some (.cells (ints (tab n fun _ => 0)).toArray 3 (0, 0))) := Lib.hid (by
      obtain ⟨_, r⟩ := ownP_made n (by omega) w
      show (w.heap.push _)[_]? = _
      simp)
    have HPOS : Hid (0 < (ints f).length → (some (⟨w.heap.size, 0, none⟩ : Addr)) = some ⟨w.heap.size, 0, none⟩ ∧ ∃ ad, fo = some ad ∧ ∀ j v, (ints f)[j]? = some v → (w.alloc (.cells (ints (tab n fun _ => 0)).toArray 3)).cell? (ad.add j) = some v) := Lib.hid (fun h0 => by
      rw [ints_length, ← HFL.out] at h0
      obtain ⟨b, o, e, _⟩ := HFX.out 0 h0
      refine ⟨rfl, _, e, fun j v hj => ?_⟩
      have hjl := (List.getElem?_eq_some_iff.1 hj).1
      rw [ints_length, ← HFL.out] at hjl
      obtain ⟨b', o', e', c'⟩ := HFX.out j hjl
      rw [e] at e'
      simp only [Option.some.injEq, Addr.mk.injEq, and_true] at e'
      obtain ⟨rfl, rfl⟩ := e'
      rw [Addr.add_lit, ck c' (a1 w _), ← hj]
      rw [HFL.out] at hjl
      simp [ints, List.getElem?_eq_getElem hjl, List.getD_eq_getElem?_getD])
    go_enter Try.func88, Try.ntmps88
    go_wp2_with (first
      | (refine wpList_copy_splice rfl _ _ 24 24 rfl 3 Try.underlying24 (by kernel_rfl) (some ⟨w.heap.size, 0, none⟩) fo n n fl fc rfl rfl w.heap.size 0 (ints (tab n fun _ => 0)) 3 HRW.out (ints f) (by rw [ints_length, ← HFL.out]; show fl = min fl n; omega) HPOS.out (by rw [ints_length, ints_length, tab_len, ← HFL.out]; omega) (ints_oneCell _) w.heap.size w (a1 w _) (Nat.le_refl _) ?_
         intro w2 hg2 hb2)
      | fail)
    have HO : Hid (w2.ownsRow w.heap.size 3 1 (.slice (some ⟨w.heap.size, 0, none⟩) n n) n (ints (tab n (adG f h t s 0)))) := Lib.hid (by
      have h9 := hg2.out
      rw [HRw.out n hfn] at h9
      exact own_of_heap h9 (Nat.le_refl _) (tabI_len _ _) (by omega))
    have HB := Lib.hid hb2
    clear hg2 hb2
    go_wp2_with fail
    go_loopw [25] (fun i wr => ∃ k : Nat, k ≤ hl ∧ i = .int .i64 k ∧ wr.ownsRow w.heap.size 3 1 (.slice (some ⟨w.heap.size, 0, none⟩) n n) n (ints (tab n (adG f h t s k))) ∧ Below w.heap.size w wr) (fun i _ => hl - (intOf i).toNat)
    case atStart => exact ⟨0, Nat.zero_le _, rfl, HO.out, HB.out⟩
    case round =>
      clear HO HB
      obtain ⟨k, hk, rfl, ho2, hb⟩ := hrel
      by_cases hkl : k < hl
      · obtain ⟨b2, o2, rfl, d1⟩ := HHX.out k hkl
        have d1 := ck d1 hb
        have hkn : k + s < n := by omega
        have t0 := World.ownsRow.cellAt ho2 (k + s) (by omega)
        rw [tabI_get _ hkn] at t0
        have t1 := World.ownsRow.frozenAt ho2 (k + s)
        have hz0 : adG f h t s k (k + s) = f.getD (k + s) 0 := by unfold adG; rw [if_neg (by omega)]; omega
        have hb1 := HBF.out (k + s)
        have hb2 := HBH.out k
        have hst := (World.ownsRow.stored ho2 (k + s) (.int .i64 (adG f h t s k (k + s) + t * h.getD k 0))).1
        rw [tabI_set (G := adG f h t s (k + 1)) _ fun i hi => by
          rw [HSuc.out k i]
          by_cases e : i = k + s
          · rw [if_pos e, if_pos e, e]
          · rw [if_neg e, if_neg e]] at hst
        have HST := Lib.hid hst
        have HBS := Lib.hid (below_cell hb (a := ⟨w.heap.size, k + s, none⟩) (Nat.le_refl _) (.int .i64 (adG f h t s k (k + s) + t * h.getD k 0)))
        clear ho2 hb hst
        rw [hz0] at t0 HST HBS
        clear hz0
        generalize f.getD (k + s) 0 = z at *
        generalize h.getD k 0 = y at *
        have hty := mul_bd' (M := 1000000) (K := 1000000) (a := t) (b := y) (by omega) (by omega)
        have hw3 : wrap64 (t * y) = t * y := wrap_in (by omega) (by omega)
        have hw4 : wrap64 (z + t * y) = z + t * y := wrap_in (by omega) (by omega)
        go_wp2_with fail
        go_roundw
        case rel => exact ⟨k + 1, by omega, by go_num, HST.out, HBS.out⟩
        case measure => simp [intOf]; omega
      · have hkk : k = hl := by omega
        have hnl : ¬ (k : Int) < (hl : Int) := by omega
        have HI : Hid (Ints wr (.slice (some ⟨w.heap.size, 0, none⟩) n n) (adL f (shfL s (h.map (t * ·))))) := Lib.hid (by
          rw [hkk, HEnd.out] at ho2
          refine Ints.of_owns ho2 (by omega) fun c hc9 => ?_
          obtain ⟨i, hi, rfl⟩ := List.getElem_of_mem hc9
          have h8 := adL_get f (shfL s (h.map (t * ·))) i
          rw [List.getD_eq_getElem?_getD, List.getElem?_eq_getElem hi] at h8
          simp only [Option.getD_some] at h8
          have := HBF.out i
          have hsg := sh_bd (M := 1000000) (K := 1000000) ht HBH.out s i
          unfold I64; omega)
        have HT := Lib.hid (HTr.out _ _ wr HI.out)
        have HB9 := Lib.hid hb
        clear ho2 hb hkk
        go_wp2_with fail
        refine HT.out.mono ?_
        rintro e w9 ⟨a9, c9, rfl, hi9, rfl⟩
        have HI9 := Lib.hid hi9
        clear hi9
        go_wp2_with fail
        refine bodyPost_ret (results_tmp rfl _ _ _) rfl ⟨a9, c9, rfl, HI9.out, HB9.out⟩

theorem add_any (v v' : Value) (f h : List Int) (w : World) (hf : Ints w v f) (hh : Ints w v' h) (lf : f.length ≤ 130) (lh : h.length ≤ 130) (bf : Bnd 100000000000000 f) (bh : Bnd 1000000 h) (t : Int) (ht : -1000000 ≤ t ∧ t ≤ 1000000) (s : Nat) (hs : s ≤ 64) :
    Calls Try.prog 88 #[v, v', .int .i64 t, .int .i64 s] w fun e w' => ∃ a c, e = .returned (.slice a (addL f h t s).length c) ∧ Ints w' (.slice a (addL f h t s).length c) (addL f h t s) ∧ Below w.heap.size w w' := by
  by_cases hle : f.length < h.length + s
  · exact add_lo v v' f h w hf hh lf lh bf bh t ht s hs hle
  · exact add_hi v v' f h w hf hh lf lh bf bh t ht s hs hle
end Go.Proofs.Ytlnbodpdgebflaa
