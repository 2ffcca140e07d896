/- planes in this seat: free, Free -/
import Derived.Test.YtlalfjkenkmojaaRc
namespace Go.Proofs.Ytlalfjkenkmojaa.Ar
open Go.RowKit

/-- A point can be added: it is not there, and in no row with two that are. -/
def frB (q : Nat) (s : List Nat) (x : Nat) : Bool := (List.range s.length).all fun i => !(s.getD i 0 == x) && (List.range i).all fun j => !(rowB q (s.getD i 0) (s.getD j 0) x)
theorem frB_iff (q : Nat) (s : List Nat) (x : Nat) : frB q s x = true ↔ ∀ i, i < s.length → s.getD i 0 ≠ x ∧ ∀ j, j < i → rowB q (s.getD i 0) (s.getD j 0) x = false := by
  unfold frB
  simp only [List.all_eq_true, List.mem_range, Bool.and_eq_true, Bool.not_eq_true', beq_eq_false_iff_ne]
def freeP (q : Nat) (s : List Nat) (k : Nat) : List Nat := (List.range' 0 k).filter (frB q s)
theorem freeP_succ (q : Nat) (s : List Nat) (k : Nat) : freeP q s (k + 1) = if frB q s k then freeP q s k ++ [k] else freeP q s k := by
  unfold freeP
  rw [List.range'_1_concat, List.filter_append, Nat.zero_add]
  cases h : frB q s k <;> simp [h]
theorem freeP_len (q : Nat) (s : List Nat) (k : Nat) : (freeP q s k).length ≤ k := by
  have := List.length_filter_le (frB q s) (List.range' 0 k)
  rwa [List.length_range'] at this
theorem freeP_bd (q : Nat) (s : List Nat) (k : Nat) : ∀ x ∈ freeP q s k, x < k := fun x hx => by
  have := (List.mem_filter.1 hx).1
  rw [List.mem_range'_1] at this
  omega

set_option maxHeartbeats 4000000 in
set_option maxRecDepth 100000 in
theorem free_any (b q : Nat) (v : Value) (s : List Nat) (w : World) (hP : PlaneAt w b q) (hq : isPn q) (h : Nats w v s) (hs : ∀ y ∈ s, y < np q) :
    Calls Try.prog 94 #[.pointer (some ⟨b, 0, none⟩), v] w fun e w' => ∃ v', e = .returned v' ∧ Nats w' v' (freeP q s (np q)) ∧ Below w.heap.size w w' := by
  obtain ⟨ao, cap, rfl, h1, h2, hx⟩ := Nats.open h
  have HX := Lib.hid hx
  have hn57 := np_le q hq.le.2
  have HRow : Hid (∀ i j x (w' : World), i < np q → j < np q → x < np q → Below w.heap.size w w' → Calls Try.prog 114 #[.pointer (some ⟨b, 0, none⟩), .int .i64 i, .int .i64 j, .slice (some ⟨w'.heap.size, 0, none⟩) 1 1] (w'.alloc (.cells #[.int .i64 x] 3)) fun e w'' => e = .returned (.bool (rowB q i j x)) ∧ Below w'.heap.size w' w'') := Lib.hid fun i j x w' hi hj hx' hb => by
    have hba : Below w'.heap.size w' (w'.alloc (.cells #[.int .i64 x] 3)) := (Below.refl _ _).alloc (Nat.le_refl _) _
    refine (inRow_any b q i j x w'.heap.size 1 (w'.alloc (.cells #[.int .i64 x] 3)) ((hP.below hb (Nat.le_refl _)).below hba (Nat.le_refl _)) hq hi hj hx' (by simp only [World.cell?, heap_alloc_new]; rfl) (Nat.le_refl _)).mono ?_
    rintro e w'' ⟨rfl, hb2⟩
    exact ⟨rfl, hba.trans (hb2.mono hba.size)⟩
  have HSn := Lib.hid (fun i (hi : i < s.length) => hs _ (natD_mem hi))
  obtain ⟨c, capc, _, c1, hcap, _⟩ := hP.open
  obtain ⟨i0, hi, hz0, hz1, hz2⟩ := info_parts Try.info3
  have HOut : Hid (∀ x, (∀ i, i < s.length → s.getD i 0 ≠ x ∧ ∀ j, j < i → rowB q (s.getD i 0) (s.getD j 0) x = false) → freeP q s (x + 1) = freeP q s x ++ [x]) := Lib.hid fun x hf => by rw [freeP_succ, if_pos ((frB_iff q s x).2 hf)]
  have HStay : Hid (∀ x, ¬ (∀ i, i < s.length → s.getD i 0 ≠ x ∧ ∀ j, j < i → rowB q (s.getD i 0) (s.getD j 0) x = false) → freeP q s (x + 1) = freeP q s x) := Lib.hid fun x hf => by rw [freeP_succ, if_neg fun e => hf ((frB_iff q s x).1 e)]
  have HLe := Lib.hid (freeP_len q s)
  have HFb := Lib.hid (freeP_bd q s)
  clear h hx hP hq hs
  generalize np q = n at *
  go_enter Try.func94, Try.ntmps94
  go_wp2_with fail
  go_step3
  go_wp2_with fail
  go_step3
  go_wp2_with fail
  go_loopw [5, 16] (fun r i wr => ∃ x : Nat, x ≤ n ∧ i = .int .i64 x ∧ wr.ownsRow w.heap.size 3 1 r (freeP q s x).length (ints (nats (freeP q s x))) ∧ Below w.heap.size w wr) (fun _ i _ => n - (intOf i).toNat)
  case atStart => exact ⟨0, Nat.zero_le _, rfl, World.ownsRow_nil _ _ _ _, Below.refl _ _⟩
  case round =>
    obtain ⟨x, hxn, rfl, hO, hb⟩ := hrel
    have HO := Lib.hid hO
    have HB := Lib.hid hb
    obtain ⟨ra, rc, rfl⟩ := owns_form hO
    clear hO hb
    have hle := HLe.out x
    by_cases hlt : x < n
    · go_wp2_with fail
      go_loopw [21] (fun i w2 => ∃ k : Nat, k ≤ s.length ∧ i = .int .i64 k ∧ (∀ i, i < k → s.getD i 0 ≠ x ∧ ∀ j, j < i → rowB q (s.getD i 0) (s.getD j 0) x = false) ∧ Below wr.heap.size wr w2) (fun i _ => s.length - (intOf i).toNat)
      case atStart => exact ⟨0, Nat.zero_le _, rfl, fun i hi => absurd hi (by omega), Below.refl _ _⟩
      case round =>
        rename World => w2
        obtain ⟨k, hk, rfl, hall, hb2⟩ := hrel
        have HA := Lib.hid hall
        have HB2 := Lib.hid hb2
        clear hall hb2
        by_cases hlk : k < s.length
        · obtain ⟨b1, o1, rfl, hck⟩ := HX.out k hlk
          have hck' := ck (ck hck HB.out) HB2.out
          have hzn := HSn.out k hlk
          obtain ⟨z, hz⟩ : ∃ z, z = s.getD k 0 := ⟨_, rfl⟩
          rw [← hz] at hck' hzn
          have HZ := Lib.hid hz
          clear hck hz
          by_cases hzx : x = z
          · subst hzx
            have HS := Lib.hid (HStay.out x fun hf => (hf k hlk).1 HZ.out.symm)
            have HO2 := Lib.hid (owns_below HO.out HB2.out (Nat.le_refl _))
            have HB3 := Lib.hid (HB.out.trans (HB2.out.mono HB.out.size))
            clear HO HZ HA
            go_wp2
            go_roundw
            case rel => exact ⟨x + 1, by omega, by go_num, by rw [HS.out]; exact HO2.out, HB3.out⟩
            case measure => simp [intOf]; omega
          · have hxz : ((x:Int) == (z:Int)) = false := beq_eq_false_iff_ne.2 (by omega)
            go_wp2_with fail
            go_loopw [33] (fun i w3 => ∃ j : Nat, j ≤ k ∧ i = .int .i64 j ∧ (∀ j', j' < j → rowB q z (s.getD j' 0) x = false) ∧ Below wr.heap.size wr w3) (fun i _ => k - (intOf i).toNat)
            case atStart => exact ⟨0, Nat.zero_le _, rfl, fun j hj => absurd hj (by omega), HB2.out⟩
            case round =>
              rename World => w3
              obtain ⟨j, hj, rfl, hrow, hb3⟩ := hrel
              have HRw := Lib.hid hrow
              have HB3 := Lib.hid hb3
              clear hrow hb3
              by_cases hlj : j < k
              · obtain ⟨b2, o2, he2, hcj⟩ := HX.out j (by omega)
                obtain ⟨rfl, rfl⟩ : b1 = b2 ∧ o1 = o2 := by simp only [Option.some.injEq, Addr.mk.injEq] at he2; exact ⟨he2.1, he2.2.1⟩
                have hcj' := ck (ck hcj HB.out) HB3.out
                have hyn := HSn.out j (by omega)
                obtain ⟨y, hy⟩ : ∃ y, y = s.getD j 0 := ⟨_, rfl⟩
                rw [← hy] at hcj' hyn
                have HY := Lib.hid hy
                have HB4 := Lib.hid (HB.out.trans (HB3.out.mono HB.out.size))
                have HC := Lib.hid (HRow.out z y x w3 hzn hyn hlt HB4.out)
                clear hcj hy he2
                cases hr : rowB q z y x with
                | true =>
                  rw [hr] at HC
                  have HS := Lib.hid (HStay.out x fun hf => by
                    have := (hf k hlk).2 j hlj
                    rw [← HZ.out, ← HY.out, hr] at this
                    cases this)
                  clear hr HRw
                  go_wp2_with fail
                  refine HC.out.mono ?_
                  rintro e w4 ⟨rfl, hb4⟩
                  have HO2 := Lib.hid (owns_below (owns_below HO.out HB3.out (Nat.le_refl _)) hb4 (Nat.le_refl _))
                  have HB5 := Lib.hid (HB4.out.trans (hb4.mono HB4.out.size))
                  clear hb4 HO HC
                  go_wp2
                  go_roundw
                  case rel => exact ⟨x + 1, by omega, by go_num, by rw [HS.out]; exact HO2.out, HB5.out⟩
                  case measure => simp [intOf]; omega
                | false =>
                  rw [hr] at HC
                  have HN := Lib.hid (fun (j' : Nat) (hj' : j' < j + 1) => show rowB q z (s.getD j' 0) x = false from if e : j' = j then by subst e; rw [← HY.out]; exact hr else HRw.out j' (by omega))
                  clear hr HRw
                  go_wp2_with fail
                  refine HC.out.mono ?_
                  rintro e w4 ⟨rfl, hb4⟩
                  have HB5 := Lib.hid (HB3.out.trans (hb4.mono HB3.out.size))
                  clear hb4 HC
                  go_wp2
                  go_roundw
                  case rel => exact ⟨j + 1, by omega, by go_num, HN.out, HB5.out⟩
                  case measure => simp [intOf]; omega
              · obtain rfl : j = k := by omega
                have HN := Lib.hid (fun (i : Nat) (hi : i < j + 1) => show s.getD i 0 ≠ x ∧ ∀ j, j < i → rowB q (s.getD i 0) (s.getD j 0) x = false from if e : i = j then by subst e; rw [← HZ.out]; exact ⟨fun e => hzx e.symm, fun j' hj' => HRw.out j' hj'⟩ else HA.out i (by omega))
                clear HRw HA
                go_wp2
                go_roundw
                case rel => exact ⟨j + 1, by omega, by go_num, HN.out, HB3.out⟩
                case measure => simp [intOf]; omega
        · obtain rfl : k = s.length := by omega
          have HS := Lib.hid (HOut.out x HA.out)
          have HO2 := Lib.hid (owns_below HO.out HB2.out (Nat.le_refl _))
          have HB3 := Lib.hid (HB.out.trans (HB2.out.mono HB.out.size))
          clear HO HA HB HB2
          generalize freeP q s x = tp at *
          go_wp2_with (at_builtin; refine wpList_append_own _ rfl _ _ 22 rfl w.heap.size 3 i0 (.int .i64 0) 1 8 Try.underlying22 hi hz0 hz1 hz2 rfl (by decide) _ _ _ rfl (HO2.out.alloc _) ⟨w2.heap.size, 0, none⟩ 1 1 [.int .i64 x] rfl rfl (newOne _ _ _) (oneInt _) (by unfold maxLen; omega) (by omega) (by have := HB3.out.size; simp; omega) ?_)
          intro v' w5 hown' hgrow _
          have HR := Lib.hid (nat_step HO2.out HB3.out HB3.out.size hown' hgrow)
          clear hown' hgrow
          go_wp2
          go_roundw
          case rel => exact ⟨x + 1, by omega, by go_num, by rw [HS.out]; exact HR.out.1, HR.out.2⟩
          case measure => simp [intOf]; omega
    · obtain rfl : x = n := by omega
      have HN := Lib.hid (Nats.of_owns HO.out (by omega) fun y hy => by have := HFb.out x y hy; omega)
      go_wp2
      rw [Exit.noGoto_ret]
      go_ret
      exact ⟨_, rfl, HN.out, HB.out⟩

set_option maxHeartbeats 2000000 in
theorem aFree_any (v : Value) (s : List Nat) (w : World) (h : Nats w v s) (hset : setB 3 (nats s) = true) (hs : ∀ y ∈ s, y < 13) (ha : arcB 3 (nats s) = true) :
    Calls Try.prog 59 #[.int .i64 3, v] w fun e w' => ∃ v', e = .returned (.tuple #[v', .int .i64 0]) ∧ Nats w' v' (freeP 3 s 13) ∧ Below w.heap.size w w' := by
  have HO := Lib.hid (openArc_any 3 v _ w h)
  have HF := Lib.hid (fun b w' (hP : PlaneAt w' b 3) (hb : Below w.heap.size w w') => free_any b 3 v s w' hP (.inr (.inl rfl)) (h.below hb (Nat.le_refl _)) hs)
  rw [show np 3 = 13 from rfl] at HF
  have HA := Lib.hid ha
  have HS := Lib.hid hset
  clear h hset ha
  generalize freeP 3 s 13 = fp at *
  go_enter Try.func59, Try.ntmps59
  go_wp2_with fail
  refine HO.out.mono ?_
  intro e w1 hq
  unfold OpenArcPost at hq
  rw [if_pos HS.out, show (3:Int).toNat = 3 from rfl, if_pos HA.out] at hq
  obtain ⟨b, rfl, hP, hb1⟩ := hq
  have HC := Lib.hid (HF.out b w1 hP hb1)
  have HB1 := Lib.hid hb1
  clear hP hb1 HF HO
  go_wp2_with fail
  refine HC.out.mono ?_
  rintro e w2 ⟨v2, rfl, hv2, hb2⟩
  have HB2 := Lib.hid (HB1.out.trans (hb2.mono HB1.out.size))
  have HV2 := Lib.hid hv2
  clear hv2 hb2
  go_wp2
  go_ret2
  exact ⟨_, rfl, HV2.out, HB2.out⟩
set_option maxHeartbeats 2000000 in
theorem aFree_no (v : Value) (s : List Nat) (w : World) (h : Nats w v s) (hset : setB 3 (nats s) = true) (ha : arcB 3 (nats s) = false) :
    Calls Try.prog 59 #[.int .i64 3, v] w fun e w' => e = .returned (.tuple #[.slice none 0 0, .int .i64 5]) ∧ Below w.heap.size w w' := by
  have HO := Lib.hid (openArc_any 3 v _ w h)
  have HA := Lib.hid ha
  have HS := Lib.hid hset
  clear h hset ha
  go_enter Try.func59, Try.ntmps59
  go_wp2_with fail
  refine HO.out.mono ?_
  intro e w1 hq
  unfold OpenArcPost at hq
  rw [if_pos HS.out, show (3:Int).toNat = 3 from rfl, if_neg (by rw [HA.out]; decide)] at hq
  obtain ⟨rfl, hb1⟩ := hq
  have HB1 := Lib.hid hb1
  clear hb1 HO
  go_wp2
  go_ret2
  exact ⟨rfl, HB1.out⟩
end Go.Proofs.Ytlalfjkenkmojaa.Ar
