/- EqualFunc, Index, Contains, other -/
import Derived.Test.YtdnhfnegnjdeoaaDoorMb
namespace Go.Proofs.YtdnhfnegnjdeoaaDoor
open Go.RowKit

def v4 (x : N4) : Value := num4 x.1 x.2.1 x.2.2.1 x.2.2.2

set_option maxRecDepth 100000 in
set_option maxHeartbeats 2000000 in
theorem same49_any (a b c d : Int) (w : World) : Calls Tryd.prog 49 #[num4 a b c d, num4 a b c d] w fun e w' => e = .returned (.bool true) ∧ Below w.heap.size w w' := by
  have b1 := (Below.refl w.heap.size w).alloc (Nat.le_refl _) (.cells #[.int .i64 a, .int .i64 b, .int .i64 c, .int .i64 d] 24)
  have s1 : (w.alloc (.cells #[.int .i64 a, .int .i64 b, .int .i64 c, .int .i64 d] 24)).heap.size = w.heap.size + 1 := World.size_alloc _ _
  have Q1 := Q4.new w 24 a b c d
  have b2 := (Below.refl (w.alloc (.cells #[.int .i64 a, .int .i64 b, .int .i64 c, .int .i64 d] 24)).heap.size (w.alloc (.cells #[.int .i64 a, .int .i64 b, .int .i64 c, .int .i64 d] 24))).alloc (Nat.le_refl _) (.cells #[.int .i64 a, .int .i64 b, .int .i64 c, .int .i64 d] 32)
  have Q2 := Q4.new (w.alloc (.cells #[.int .i64 a, .int .i64 b, .int .i64 c, .int .i64 d] 24)) 32 a b c d
  rw [s1] at Q2
  have Q1' := Q1.below b2
  have HB2 := Lib.hid (b1.trans (b2.mono b1.size))
  have HO := Lib.hid (fun w => own_any a b c d w)
  unfold num4 at HO ⊢
  clear b1 b2 Q1 s1
  have HQ2 := Lib.hid Q2
  have HQ1 := Lib.hid Q1'
  go_enter Tryd.func49, Tryd.ntmps49
  go_wp2_with fail
  generalize (w.alloc (.cells #[.int .i64 a, .int .i64 b, .int .i64 c, .int .i64 d] 24)).alloc (.cells #[.int .i64 a, .int .i64 b, .int .i64 c, .int .i64 d] 32) = W at *
  have p0 : W.drew.cell? ⟨w.heap.size, 0, none⟩ = some (.int .i64 a) := HQ1.out.c0
  have p1 : W.drew.cell? ⟨w.heap.size, 1, none⟩ = some (.int .i64 b) := HQ1.out.c1
  have p2 : W.drew.cell? ⟨w.heap.size, 2, none⟩ = some (.int .i64 c) := HQ1.out.c2
  have p3 : W.drew.cell? ⟨w.heap.size, 3, none⟩ = some (.int .i64 d) := HQ1.out.c3
  have q0 : W.drew.cell? ⟨w.heap.size + 1, 0, none⟩ = some (.int .i64 a) := HQ2.out.c0
  have q1 : W.drew.cell? ⟨w.heap.size + 1, 1, none⟩ = some (.int .i64 b) := HQ2.out.c1
  have q2 : W.drew.cell? ⟨w.heap.size + 1, 2, none⟩ = some (.int .i64 c) := HQ2.out.c2
  have q3 : W.drew.cell? ⟨w.heap.size + 1, 3, none⟩ = some (.int .i64 d) := HQ2.out.c3
  have r0 : W.cell? ⟨w.heap.size, 0, none⟩ = some (.int .i64 a) := HQ1.out.c0
  have r1 : W.cell? ⟨w.heap.size, 1, none⟩ = some (.int .i64 b) := HQ1.out.c1
  have r2 : W.cell? ⟨w.heap.size, 2, none⟩ = some (.int .i64 c) := HQ1.out.c2
  have r3 : W.cell? ⟨w.heap.size, 3, none⟩ = some (.int .i64 d) := HQ1.out.c3
  have t0 : W.cell? ⟨w.heap.size + 1, 0, none⟩ = some (.int .i64 a) := HQ2.out.c0
  have t1 : W.cell? ⟨w.heap.size + 1, 1, none⟩ = some (.int .i64 b) := HQ2.out.c1
  have t2 : W.cell? ⟨w.heap.size + 1, 2, none⟩ = some (.int .i64 c) := HQ2.out.c2
  have t3 : W.cell? ⟨w.heap.size + 1, 3, none⟩ = some (.int .i64 d) := HQ2.out.c3
  go_region_with (go_at_call 21; refine (HO.out _).mono ?_; rintro e w2 ⟨rfl, hb⟩; have y0 := ck q0 hb; have y1 := ck q1 hb; have y2 := ck q2 hb; have y3 := ck q3 hb)
  all_goals
    have HB3 := Lib.hid (HB2.out.drew.trans (hb.mono HB2.out.drew.size))
    clear hb
    go_wp2_with fail
    go_ret
    first | exact ⟨rfl, HB3.out⟩ | exact ⟨rfl, HB3.out.drew⟩

theorem len_num {n : Nat} (h : n ≤ maxLen) : n ≤ 9223372036854775807 := h

set_option maxRecDepth 100000 in
set_option maxHeartbeats 2000000 in
theorem EqualFunc_any (v v' : Value) (l : List N4) (w : World) (h : R4 w v l) (h' : R4 w v' l) :
    Calls Tryd.prog 47 #[v, v', .func (.func 49) #[] #[]] w fun e w' => e = .returned (.bool true) ∧ Below w.heap.size w w' := by
  obtain ⟨ao, cap, rfl, h1, h2, hx⟩ := h
  obtain ⟨ao', cap', rfl, h1', h2', hx'⟩ := h'
  have HX := Lib.hid hx
  have HX' := Lib.hid hx'
  have HS := Lib.hid same49_any
  have h3 := len_num (Nat.le_trans h1 h2)
  clear hx hx'
  generalize l.length = n at *
  unfold num4 at HS
  go_enter Tryd.func47, Tryd.ntmps47
  go_wp2
  go_loopw [17] (fun i wr => ∃ k : Nat, k ≤ n ∧ i = .int .i64 k ∧ Below w.heap.size w wr) (fun i _ => n - (intOf i).toNat)
  case atStart => exact ⟨0, Nat.zero_le _, rfl, Below.refl _ _⟩
  case round =>
    obtain ⟨k, hk, rfl, hb⟩ := hrel
    have HB := Lib.hid hb
    by_cases hlt : k < n
    · obtain ⟨b, rfl, c0, c1, c2, c3⟩ := HX.out k hlt
      obtain ⟨b', rfl, d0, d1, d2, d3⟩ := HX'.out k hlt
      generalize l.getD k z4 = x at *
      obtain ⟨x0, x1, x2, x3⟩ := x
      dsimp only at *
      have c0 := ck c0 hb
      have c1 := ck c1 hb
      have c2 := ck c2 hb
      have c3 := ck c3 hb
      have ba := (Below.refl wr.heap.size wr).alloc (Nat.le_refl _) (.cells #[.int .i64 x0, .int .i64 x1, .int .i64 x2, .int .i64 x3] 24)
      have sa : (wr.alloc (.cells #[.int .i64 x0, .int .i64 x1, .int .i64 x2, .int .i64 x3] 24)).heap.size = wr.heap.size + 1 := World.size_alloc _ _
      have d0 := ck (ck d0 hb) ba
      have d1 := ck (ck d1 hb) ba
      have d2 := ck (ck d2 hb) ba
      have d3 := ck (ck d3 hb) ba
      have QA := Q4.new wr 24 x0 x1 x2 x3
      have bb := (Below.refl (wr.alloc (.cells #[.int .i64 x0, .int .i64 x1, .int .i64 x2, .int .i64 x3] 24)).heap.size (wr.alloc (.cells #[.int .i64 x0, .int .i64 x1, .int .i64 x2, .int .i64 x3] 24))).alloc (Nat.le_refl _) (.cells #[.int .i64 x0, .int .i64 x1, .int .i64 x2, .int .i64 x3] 32)
      have QB := Q4.new (wr.alloc (.cells #[.int .i64 x0, .int .i64 x1, .int .i64 x2, .int .i64 x3] 24)) 32 x0 x1 x2 x3
      rw [sa] at QB
      have QA := QA.below bb
      have HBb := Lib.hid ((hb.trans (ba.mono hb.size)).trans (bb.mono (Nat.le_trans hb.size ba.size)))
      have a0 := QA.c0
      have a1 := QA.c1
      have a2 := QA.c2
      have a3 := QA.c3
      have b0 := QB.c0
      have b1 := QB.c1
      have b2 := QB.c2
      have b3 := QB.c3
      clear ba bb QA QB sa hb
      go_wp2_with fail
      refine (HS.out _ _ _ _ _).mono ?_
      rintro e w2 ⟨rfl, hb2⟩
      have HB2 := Lib.hid (HBb.out.trans (hb2.mono HBb.out.size))
      clear hb2
      go_wp2
      go_roundw
      case rel => exact ⟨k + 1, by omega, by go_num, HB2.out⟩
      case measure => simp [intOf]; omega
    · obtain rfl : k = n := by omega
      go_wp2
      go_ret
      exact ⟨rfl, HB.out⟩

theorem z4_ne {x y : N4} (h : x ≠ y) : x.1 ≠ y.1 ∨ (x.1 = y.1 ∧ x.2.1 ≠ y.2.1) ∨ (x.1 = y.1 ∧ x.2.1 = y.2.1 ∧ x.2.2.1 ≠ y.2.2.1) ∨ (x.1 = y.1 ∧ x.2.1 = y.2.1 ∧ x.2.2.1 = y.2.2.1 ∧ x.2.2.2 ≠ y.2.2.2) := by
  obtain ⟨a, b, c, d⟩ := x
  obtain ⟨a', b', c', d'⟩ := y
  dsimp only
  by_cases h1 : a = a'
  · by_cases h2 : b = b'
    · by_cases h3 : c = c'
      · by_cases h4 : d = d'
        · exact absurd (by rw [h1, h2, h3, h4]) h
        · exact .inr (.inr (.inr ⟨h1, h2, h3, h4⟩))
      · exact .inr (.inr (.inl ⟨h1, h2, h3⟩))
    · exact .inr (.inl ⟨h1, h2⟩)
  · exact .inl h1

set_option maxRecDepth 100000 in
set_option maxHeartbeats 4000000 in
theorem Index_any (v : Value) (l : List N4) (a b c d : Int) (w : World) (h : R4 w v l) (hm : ((a, b, c, d) : N4) ∈ l) :
    Calls Tryd.prog 83 #[v, num4 a b c d] w fun e w' => (∃ i : Nat, e = .returned (.int .i64 i) ∧ i < 9223372036854775808) ∧ Below w.heap.size w w' := by
  obtain ⟨ao, cap, rfl, h1, h2, hx⟩ := h
  have HX := Lib.hid hx
  have h3 := len_num (Nat.le_trans h1 h2)
  have hbA := (Below.refl w.heap.size w).alloc (Nat.le_refl _) (.cells #[.int .i64 a, .int .i64 b, .int .i64 c, .int .i64 d] 24)
  have HB := Lib.hid hbA
  have QA := Q4.new w 24 a b c d
  obtain ⟨p, hp, hpx⟩ : ∃ p, p < l.length ∧ l.getD p z4 = (a, b, c, d) := by
    obtain ⟨p, hp, e⟩ := List.mem_iff_getElem.1 hm
    exact ⟨p, hp, by simp [hp, e]⟩
  have HP := Lib.hid hpx
  clear hx hm hpx
  generalize l.length = n at *
  have q0 := QA.c0
  have q1 := QA.c1
  have q2 := QA.c2
  have q3 := QA.c3
  have HBx : Hid (∀ k, k < n → ∃ b0, ao = some ⟨b0, 0, none⟩ ∧
    (w.alloc (.cells #[.int .i64 a, .int .i64 b, .int .i64 c, .int .i64 d] 24)).cell? ⟨b0, k * 4, none⟩ = some (.int .i64 (l.getD k z4).1) ∧ (w.alloc (.cells #[.int .i64 a, .int .i64 b, .int .i64 c, .int .i64 d] 24)).cell? ⟨b0, k * 4 + 1, none⟩ = some (.int .i64 (l.getD k z4).2.1) ∧
    (w.alloc (.cells #[.int .i64 a, .int .i64 b, .int .i64 c, .int .i64 d] 24)).cell? ⟨b0, k * 4 + 2, none⟩ = some (.int .i64 (l.getD k z4).2.2.1) ∧ (w.alloc (.cells #[.int .i64 a, .int .i64 b, .int .i64 c, .int .i64 d] 24)).cell? ⟨b0, k * 4 + 3, none⟩ = some (.int .i64 (l.getD k z4).2.2.2)) := Lib.hid fun k hk => by
    obtain ⟨b0, e, c0, c1, c2, c3⟩ := HX.out k hk
    exact ⟨b0, e, ck c0 hbA, ck c1 hbA, ck c2 hbA, ck c3 hbA⟩
  unfold num4
  clear QA HX hbA
  go_enter Tryd.func83, Tryd.ntmps83
  go_wp2
  generalize w.alloc (.cells #[.int .i64 a, .int .i64 b, .int .i64 c, .int .i64 d] 24) = W at *
  go_loopw [8] (fun i wr => ∃ k m : Nat, k ≤ p ∧ i = .int .i64 k ∧ wr = W.drewN m) (fun i _ => n - (intOf i).toNat)
  case atStart => exact ⟨0, 0, Nat.zero_le _, rfl, rfl⟩
  case round =>
    obtain ⟨k, m, hk, rfl, rfl⟩ := hrel
    have hkn : k < n := by omega
    obtain ⟨b0, rfl, c0, c1, c2, c3⟩ := HBx.out k hkn
    have HBm := Lib.hid (below_drewN HB.out m)
    by_cases he : l.getD k z4 = (a, b, c, d)
    · rw [he] at c0 c1 c2 c3
      have e0 : (a == a) = true := beq_self_eq_true a
      have e1 : (b == b) = true := beq_self_eq_true b
      have e2 : (c == c) = true := beq_self_eq_true c
      have e3 : (d == d) = true := beq_self_eq_true d
      clear he
      go_wp2_with fail
      go_quiet (fail)
      have HBq := Lib.hid (below_drewN HBm.out nq)
      go_wp2
      go_ret
      exact ⟨⟨k, rfl, by omega⟩, HBq.out⟩
    · have hkp : k < p := by
        rcases Nat.lt_or_ge k p with h | h
        · exact h
        · exfalso
          obtain rfl : k = p := by omega
          exact he HP.out
      have hne := z4_ne he
      have hne' : (a = (l.getD k z4).1 ∧ b = (l.getD k z4).2.1 ∧ c = (l.getD k z4).2.2.1 ∧ ¬ d = (l.getD k z4).2.2.2) ∨ (a = (l.getD k z4).1 ∧ b = (l.getD k z4).2.1 ∧ ¬ c = (l.getD k z4).2.2.1) ∨ (a = (l.getD k z4).1 ∧ ¬ b = (l.getD k z4).2.1) ∨ ¬ a = (l.getD k z4).1 := by
        rcases hne with h | ⟨h1, h⟩ | ⟨h1, h2, h⟩ | ⟨h1, h2, h3, h⟩
        · exact .inr (.inr (.inr fun e => h e.symm))
        · exact .inr (.inr (.inl ⟨h1.symm, fun e => h e.symm⟩))
        · exact .inr (.inl ⟨h1.symm, h2.symm, fun e => h e.symm⟩)
        · exact .inl ⟨h1.symm, h2.symm, h3.symm, fun e => h e.symm⟩
      clear hne he
      generalize l.getD k z4 = y at *
      obtain ⟨y0, y1, y2, y3⟩ := y
      dsimp only at *
      rcases hne' with ⟨g0, g1, g2, g3⟩ | ⟨g0, g1, g2⟩ | ⟨g0, g1⟩ | g0
      · have e0 : (a == y0) = true := by simp [g0]
        have e1 : (b == y1) = true := by simp [g1]
        have e2 : (c == y2) = true := by simp [g2]
        have e3 : (d == y3) = false := by simp [g3]
        clear g0 g1 g2 g3
        go_wp2_with fail
        go_quiet (fail)
        go_wp2
        go_roundw
        case rel => exact ⟨k + 1, _, by omega, by go_num, rfl⟩
        case measure => simp [intOf]; omega
      · have e0 : (a == y0) = true := by simp [g0]
        have e1 : (b == y1) = true := by simp [g1]
        have e2 : (c == y2) = false := by simp [g2]
        clear g0 g1 g2
        go_wp2_with fail
        go_quiet (fail)
        go_wp2
        go_roundw
        case rel => exact ⟨k + 1, _, by omega, by go_num, rfl⟩
        case measure => simp [intOf]; omega
      · have e0 : (a == y0) = true := by simp [g0]
        have e1 : (b == y1) = false := by simp [g1]
        clear g0 g1
        go_wp2_with fail
        go_quiet (fail)
        go_wp2
        go_roundw
        case rel => exact ⟨k + 1, _, by omega, by go_num, rfl⟩
        case measure => simp [intOf]; omega
      · have e0 : (a == y0) = false := by simp [g0]
        clear g0
        go_wp2_with fail
        go_quiet (fail)
        go_wp2
        go_roundw
        case rel => exact ⟨k + 1, _, by omega, by go_num, rfl⟩
        case measure => simp [intOf]; omega

set_option maxRecDepth 100000 in
set_option maxHeartbeats 2000000 in
theorem Contains_any (v : Value) (l : List N4) (a b c d : Int) (w : World) (h : R4 w v l) (hm : ((a, b, c, d) : N4) ∈ l) :
    Calls Tryd.prog 50 #[v, num4 a b c d] w fun e w' => e = .returned (.bool true) ∧ Below w.heap.size w w' := by
  have hbA := (Below.refl w.heap.size w).alloc (Nat.le_refl _) (.cells #[.int .i64 a, .int .i64 b, .int .i64 c, .int .i64 d] 24)
  have HB := Lib.hid hbA
  have QA := Q4.new w 24 a b c d
  have HI := Lib.hid (Index_any v l a b c d _ (h.below hbA) hm)
  obtain ⟨ao, cap, rfl, _, _, _⟩ := h
  have q0 := QA.c0
  have q1 := QA.c1
  have q2 := QA.c2
  have q3 := QA.c3
  unfold num4 at HI ⊢
  clear QA hbA
  go_enter Tryd.func50, Tryd.ntmps50
  go_wp2_with fail
  refine HI.out.mono ?_
  rintro e w2 ⟨⟨i, rfl, hi⟩, hb2⟩
  have HB2 := Lib.hid (HB.out.trans (hb2.mono HB.out.size))
  clear hb2
  have hi0 : 0 ≤ (i:Int) := by omega
  go_wp2
  go_ret
  exact ⟨rfl, HB2.out⟩

set_option maxRecDepth 100000 in
set_option maxHeartbeats 2000000 in
theorem other51_any (a b c d : Int) (w : World) (ha : 0 ≤ a ∧ a ≤ 100) (hb : 0 ≤ b ∧ b ≤ 100) (hc : 0 ≤ c ∧ c ≤ 100) (hd : 0 ≤ d ∧ d ≤ 100) :
    Calls Tryd.prog 51 #[num4 a b c d] w fun e w' => e = .returned (num4 a (a - b - 1) (a - 2 - 2 * b + d) (a - 2 * b + c)) ∧ Below w.heap.size w w' := by
  have b1 := (Below.refl w.heap.size w).alloc (Nat.le_refl _) (.cells #[.int .i64 a, .int .i64 b, .int .i64 c, .int .i64 d] 24)
  have s1 : (w.alloc (.cells #[.int .i64 a, .int .i64 b, .int .i64 c, .int .i64 d] 24)).heap.size = w.heap.size + 1 := World.size_alloc _ _
  have Q1 := Q4.new w 24 a b c d
  have q0 := Q1.c0
  have q1 := Q1.c1
  have q2 := Q1.c2
  have q3 := Q1.c3
  unfold num4
  go_enter Tryd.func51, Tryd.ntmps51
  go_wp2_with fail
  have hS := Q4.new (w.alloc (.cells #[.int .i64 a, .int .i64 b, .int .i64 c, .int .i64 d] 24)) 24 a (a - b - 1) (a - 2 - 2 * b + d) (a - 2 * b + c)
  have hB := b1.alloc (by omega) (.cells #[.int .i64 a, .int .i64 (a - b - 1), .int .i64 (a - 2 - 2 * b + d), .int .i64 (a - 2 * b + c)] 24)
  rw [s1] at hS
  generalize ((w.alloc (.cells #[.int .i64 a, .int .i64 b, .int .i64 c, .int .i64 d] 24)).alloc (.cells #[.int .i64 a, .int .i64 (a - b - 1), .int .i64 (a - 2 - 2 * b + d), .int .i64 (a - 2 * b + c)] 24)) = W at *
  refine bodyPost_ret (v := .agg #[.int .i64 a, .int .i64 (a - b - 1), .int .i64 (a - 2 - 2 * b + d), .int .i64 (a - 2 * b + c)]) ?_ rfl ⟨rfl, hB⟩
  simp [results, Tryd.f51, go_sem, hS.c0, hS.c1, hS.c2, hS.c3]
end Go.Proofs.YtdnhfnegnjdeoaaDoor
