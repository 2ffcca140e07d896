/- cards: areCards, Third, Sets; the reference's Cards, Sets; awake -/
import Derived.Test.YtlalfjkenkmojaaCc
import Derived.Test.YtlalfjkenkmojaaKe
namespace Go.Proofs.Ytlalfjkenkmojaa
open Go.RowKit

theorem quiet_eq {P : Program} {f : FuncId} {args : Array Value} {w : World} {n : Nat} {v : Value}
    (h : Calls P f args (w.drewN n) fun e w' => e = .returned v ∧ w.drewN n = w') : Calls P f args (w.drewN n) fun e w'' => e = .returned v ∧ ∃ m, w'' = w.drewN m :=
  h.mono fun _ _ ⟨he, hm⟩ => ⟨he, n, hm.symm⟩
theorem drew_below {w w' : World} (h : ∃ n, w' = w.drewN n) : Below w.heap.size w w' := by
  obtain ⟨n, rfl⟩ := h
  exact below_drewN (Below.refl _ _) _

/-- A dimension. -/
def dimB (d : Int) : Bool := decide (1 ≤ d ∧ d ≤ 4)
theorem dimB_of {d : Int} (h : dimB d = true) : ∃ n : Nat, d = n ∧ 1 ≤ n ∧ n ≤ 4 ∧ sizeI d = 3 ^ n := by
  have := of_decide_eq_true h
  refine ⟨d.toNat, by omega, by omega, by omega, ?_⟩
  unfold sizeI; rw [if_pos this]
theorem dimB_no {d : Int} (h : dimB d = false) : sizeI d = 0 := by
  have := of_decide_eq_false h
  unfold sizeI; rw [if_neg this]
set_option maxHeartbeats 1000000 in
theorem isDeck_any (d : Int) (w : World) : Calls Try.prog 69 #[.int .i64 d] w fun e w' => e = .returned (.bool (dimB d)) ∧ w = w' := by
  by_cases h1 : d < 1
  · have HB : Hid (dimB d = false) := Lib.hid (decide_eq_false (by omega))
    go_enter Try.func69, Try.ntmps69
    go_wp2
    go_ret
    exact ⟨ret_bool (by first | exact HB.out.symm | (rw [HB.out]; simp; done) | (rw [HB.out]; simp; omega)), rfl⟩
  by_cases h2 : 4 < d
  · have HB : Hid (dimB d = false) := Lib.hid (decide_eq_false (by omega))
    go_enter Try.func69, Try.ntmps69
    go_wp2
    go_ret
    exact ⟨ret_bool (by first | exact HB.out.symm | (rw [HB.out]; simp; done) | (rw [HB.out]; simp; omega)), rfl⟩
  have HB : Hid (dimB d = true) := Lib.hid (decide_eq_true (by omega))
  go_enter Try.func69, Try.ntmps69
  go_wp2
  go_ret
  exact ⟨ret_bool (by first | exact HB.out.symm | (rw [HB.out]; simp; done) | (rw [HB.out]; simp; omega)), rfl⟩

/-- Cards of dimension d. -/
def deckB (d : Int) (xs : List Int) : Bool := dimB d && riseB xs 0 (sizeI d)
set_option maxHeartbeats 1000000 in
theorem areCards_any (d : Int) (v : Value) (xs : List Int) (w : World) (h : Ints w v xs) : Calls Try.prog 60 #[.int .i64 d, v] w fun e w' => e = .returned (.bool (deckB d xs)) ∧ w = w' := by
  have HD := Lib.hid (isDeck_any d w)
  cases hd : dimB d with
  | false =>
    rw [hd] at HD
    have HB : Hid (deckB d xs = false) := Lib.hid (by unfold deckB; rw [hd]; rfl)
    clear hd h
    go_enter Try.func60, Try.ntmps60
    go_wp2_with fail
    refine HD.out.mono ?_
    rintro e w' ⟨rfl, rfl⟩
    go_wp2
    go_ret
    exact ⟨ret_bool HB.out.symm, rfl⟩
  | true =>
    rw [hd] at HD
    have HB : Hid (deckB d xs = riseB xs 0 (sizeI d)) := Lib.hid (by unfold deckB; rw [hd]; rfl)
    have HR := Lib.hid (isRising_any v xs 0 (sizeI d) w h)
    obtain ⟨n, rfl, h1, h4, hs⟩ := dimB_of hd
    have HS := Lib.hid (size_any n w h4)
    rw [hs] at HR HB
    clear hd h
    generalize 3 ^ n = s at *
    generalize riseB xs 0 s = r at *
    go_enter Try.func60, Try.ntmps60
    go_wp2_with fail
    refine HD.out.mono ?_
    rintro e w' ⟨rfl, rfl⟩
    go_wp2_with fail
    refine HS.out.mono ?_
    rintro e w' ⟨rfl, rfl⟩
    go_wp2_with fail
    refine HR.out.mono ?_
    rintro e w' ⟨rfl, rfl⟩
    go_wp2
    go_ret
    exact ⟨ret_bool HB.out.symm, rfl⟩

theorem sizeI_le (d : Int) : sizeI d ≤ 81 := by
  unfold sizeI; split
  · exact (p3 d.toNat (by omega)).2
  · omega
set_option maxHeartbeats 1000000 in
theorem rCards_any (d : Int) (v : Value) (xs : List Int) (w : World) (h : Ints w v xs) : Calls Try.prog 23 #[.int .i64 d, v] w fun e w' => e = .returned (.bool (deckB d xs)) ∧ w = w' := by
  have HS := Lib.hid (fun w => rSize_any d w)
  cases hd : dimB d with
  | false =>
    have HB : Hid (deckB d xs = false) := Lib.hid (by unfold deckB; rw [hd]; rfl)
    rw [dimB_no hd] at HS
    clear hd h
    go_enter Try.func23, Try.ntmps23
    go_wp2_with fail
    refine (HS.out _).mono ?_
    rintro e w' ⟨rfl, rfl⟩
    go_wp2
    go_ret
    exact ⟨ret_bool HB.out.symm, rfl⟩
  | true =>
    have HB : Hid (deckB d xs = riseB xs 0 (sizeI d)) := Lib.hid (by unfold deckB; rw [hd]; rfl)
    have HR := Lib.hid (rRising_any v xs 0 (sizeI d) w h)
    obtain ⟨n, hn, h1, h4, hs⟩ := dimB_of hd
    have hp := p3 n h4
    rw [← hs] at hp
    clear hd h hs hn
    generalize sizeI d = s at *
    generalize riseB xs 0 s = r at *
    have c0 : (0:Int) < (s:Int) := by omega
    go_enter Try.func23, Try.ntmps23
    go_wp2_with fail
    refine (HS.out _).mono ?_
    rintro e w' ⟨rfl, rfl⟩
    go_wp2_with fail
    refine (HS.out _).mono ?_
    rintro e w' ⟨rfl, rfl⟩
    go_wp2_with fail
    refine HR.out.mono ?_
    rintro e w' ⟨rfl, rfl⟩
    go_wp2
    go_ret
    exact ⟨ret_bool HB.out.symm, rfl⟩

theorem riseB_iff {xs : List Int} {a b : Int} : riseB xs a b = true ↔ ∀ i, i < xs.length → a ≤ xs.getD i 0 ∧ xs.getD i 0 < b ∧ (i = 0 ∨ xs.getD (i - 1) 0 < xs.getD i 0) := by
  unfold riseB
  rw [List.all_eq_true]
  constructor
  · intro h i hi
    have := h i (List.mem_range.2 hi)
    unfold riseAt at this
    simp only [Bool.and_eq_true, Bool.or_eq_true, decide_eq_true_eq, beq_iff_eq] at this
    exact ⟨this.1.1, this.1.2, this.2⟩
  · intro h i hi
    have := h i (List.mem_range.1 hi)
    unfold riseAt
    simp only [Bool.and_eq_true, Bool.or_eq_true, decide_eq_true_eq, beq_iff_eq]
    exact ⟨⟨this.1, this.2.1⟩, this.2.2⟩
/-- A rising slice is a row of numbers that rise. -/
theorem rise_nats {xs : List Int} {a b : Nat} (h : riseB xs a b = true) : ∃ l, xs = nats l ∧ Up l ∧ ∀ x ∈ l, a ≤ x ∧ x < b := by
  rw [riseB_iff] at h
  have hx : xs = nats (xs.map Int.toNat) := by
    refine List.ext_getElem (by simp [nats]) fun i h1 h2 => ?_
    have := h i h1
    simp only [nats, List.getElem_map]
    simp [h1] at this
    omega
  refine ⟨xs.map Int.toNat, hx, ?_, ?_⟩
  · have key : ∀ i j, i < j → j < xs.length → xs.getD i 0 < xs.getD j 0 := by
      intro i j hij hj
      induction j with
      | zero => omega
      | succ j ih =>
        have h1 := (h (j + 1) hj).2.2
        simp only [Nat.add_sub_cancel] at h1
        rcases Nat.lt_or_ge i j with g | g
        · have := ih g (by omega); omega
        · obtain rfl : i = j := by omega
          omega
    unfold Up
    rw [List.pairwise_iff_getElem]
    intro i j hi hj hij
    simp only [List.length_map] at hi hj
    have h1 := key i j hij hj
    have h2 := h i hi
    simp [hi, hj] at h1 h2
    simp only [List.getElem_map]
    omega
  · intro x hx
    obtain ⟨y, hy, rfl⟩ := List.mem_map.1 hx
    obtain ⟨k, hk, rfl⟩ := mem_getD hy
    have := h k hk
    omega
theorem nats_rise {l : List Nat} {a b : Nat} (hu : Up l) (h : ∀ x ∈ l, a ≤ x ∧ x < b) : riseB (nats l) a b = true := by
  rw [riseB_iff]
  intro i hi
  rw [nats_length] at hi
  have := h _ (at_mem hi)
  refine ⟨by rw [nats_getD]; omega, by rw [nats_getD]; omega, ?_⟩
  rcases Nat.eq_zero_or_pos i with g | g
  · exact .inl g
  · right
    have := up_lt hu (show i - 1 < i by omega) hi
    rw [nats_getD, nats_getD]; omega
theorem deck_nats {d : Int} {xs : List Int} (h : deckB d xs = true) : ∃ (n : Nat) (l : List Nat), d = n ∧ 1 ≤ n ∧ n ≤ 4 ∧ sizeI d = 3 ^ n ∧ xs = nats l ∧ Deck n l := by
  unfold deckB at h
  rw [Bool.and_eq_true] at h
  obtain ⟨n, hn, h1, h4, hs⟩ := dimB_of h.1
  have h2 := h.2
  rw [hs] at h2
  obtain ⟨l, hl, hu, hb⟩ := rise_nats (a := 0) h2
  exact ⟨n, l, hn, h1, h4, hs, hl, hu, fun x hx => (hb x hx).2⟩
/-- A rising row of numbers below n is not longer than n. -/
theorem up_len {l : List Nat} (hu : Up l) {n : Nat} (h : ∀ x ∈ l, x < n) : l.length ≤ n := by
  have key : ∀ i, i < l.length → i ≤ l.getD i 0 := by
    intro i
    induction i with
    | zero => intro _; exact Nat.zero_le _
    | succ i ih => intro hi; have := ih (by omega); have := up_lt hu (show i < i + 1 by omega) hi; omega
  rcases Nat.eq_zero_or_pos l.length with g | g
  · omega
  · have := key (l.length - 1) (by omega)
    have := h _ (at_mem (show l.length - 1 < l.length by omega))
    omega
theorem Deck.len {d : Nat} {l : List Nat} (h : Deck d l) (hd : d ≤ 4) : l.length ≤ 81 := by
  have := up_len h.1 h.2
  have := p3 d hd
  omega
theorem Deck.bd {d : Nat} {l : List Nat} (h : Deck d l) (hd : d ≤ 4) : ∀ x ∈ l, x ≤ 81 := fun x hx => by
  have := h.2 x hx
  have := p3 d hd
  omega

theorem ints_two (w : World) (x y : Int) (hx : I64 x) (hy : I64 y) : Ints (w.alloc (.cells #[.int .i64 x, .int .i64 y] 3)) (.slice (some ⟨w.heap.size, 0, none⟩) 2 2) [x, y] := by
  refine ⟨⟨_, 2, rfl, Nat.le_refl _, by simp [ints], by unfold maxLen; omega, .inr ⟨w.heap.size, 0, rfl, by simp, fun k u hk => ?_⟩⟩, by simp [hx, hy]⟩
  have h := heap_alloc_new w (.cells #[.int .i64 x, .int .i64 y] 3)
  simp only [World.cell?, h]
  match k, hk with
  | 0, hk => simpa [ints] using hk
  | 1, hk => simpa [ints] using hk

/-- Two different cards. -/
def twoB (d a b : Int) : Bool := deckB d [min a b, max a b]
theorem twoB_iff (d a b : Int) : twoB d a b = true ↔ dimB d = true ∧ 0 ≤ a ∧ a < sizeI d ∧ 0 ≤ b ∧ b < sizeI d ∧ a ≠ b := by
  unfold twoB deckB
  rw [Bool.and_eq_true, riseB_iff]
  constructor
  · rintro ⟨h1, h2⟩
    have h3 := h2 0 (by simp)
    have h4 := h2 1 (by simp)
    simp at h3 h4
    exact ⟨h1, by omega, by omega, by omega, by omega, by omega⟩
  · rintro ⟨h1, h2⟩
    refine ⟨h1, fun i hi => ?_⟩
    match i, hi with
    | 0, _ => simp; omega
    | 1, _ => simp; omega

set_option maxHeartbeats 1000000 in
theorem Third_bad (d a b : Int) (w : World) (ha : I64 a) (hb : I64 b) (h : twoB d a b = false) : Calls Try.prog 18 #[.int .i64 d, .int .i64 a, .int .i64 b] w fun e w' => e = .returned (.tuple #[.int .i64 0, .int .i64 2]) ∧ Below w.heap.size w w' := by
  unfold twoB at h
  rcases Int.lt_trichotomy a b with c | c | c
  · have hm : min a b = a := by omega
    have hM : max a b = b := by omega
    rw [hm, hM] at h
    have HA := Lib.hid (areCards_any d _ _ _ (ints_two w a b ha hb))
    rw [h] at HA
    clear h
    go_enter Try.func18, Try.ntmps18
    go_wp2_with fail
    refine HA.out.mono ?_
    rintro e w' ⟨rfl, rfl⟩
    go_wp2
    go_ret2
    exact ⟨rfl, (Below.refl _ _).alloc (Nat.le_refl _) _⟩
  · subst c
    have hm : min a a = a := by omega
    have hM : max a a = a := by omega
    rw [hm, hM] at h
    have HA := Lib.hid (areCards_any d _ _ _ (ints_two w a a ha ha))
    rw [h] at HA
    clear h
    go_enter Try.func18, Try.ntmps18
    go_wp2_with fail
    refine HA.out.mono ?_
    rintro e w' ⟨rfl, rfl⟩
    go_wp2
    go_ret2
    exact ⟨rfl, (Below.refl _ _).alloc (Nat.le_refl _) _⟩
  · have hm : min a b = b := by omega
    have hM : max a b = a := by omega
    rw [hm, hM] at h
    have HA := Lib.hid (areCards_any d _ _ _ (ints_two w b a hb ha))
    rw [h] at HA
    clear h
    go_enter Try.func18, Try.ntmps18
    go_wp2_with fail
    refine HA.out.mono ?_
    rintro e w' ⟨rfl, rfl⟩
    go_wp2
    go_ret2
    exact ⟨rfl, (Below.refl _ _).alloc (Nat.le_refl _) _⟩

theorem I64_nat {a : Nat} (h : a ≤ 65536) : I64 a := by unfold I64; omega
set_option maxHeartbeats 1000000 in
theorem Third_any (d a b : Nat) (w : World) (h1 : 1 ≤ d) (hd : d ≤ 4) (ha : a < 3 ^ d) (hb : b < 3 ^ d) (hne : a ≠ b) :
    Calls Try.prog 18 #[.int .i64 d, .int .i64 a, .int .i64 b] w fun e w' => e = .returned (.tuple #[.int .i64 (thirdN d a b : Nat), .int .i64 0]) ∧ Below w.heap.size w w' := by
  have hp := p3 d hd
  have HT := Lib.hid (fun w => third_any d a b w hd (by omega) (by omega))
  have hdim : dimB (d:Int) = true := decide_eq_true (by omega)
  have hsz : sizeI (d:Int) = 3 ^ d := by obtain ⟨n, e, _, _, hs⟩ := dimB_of hdim; obtain rfl : d = n := by omega
                                         exact hs
  have h2 : twoB d a b = true := (twoB_iff _ _ _).2 ⟨hdim, by omega, by rw [hsz]; omega, by omega, by rw [hsz]; omega, by omega⟩
  unfold twoB at h2
  by_cases c : a < b
  · have hm : min (a:Int) b = a := by omega
    have hM : max (a:Int) b = b := by omega
    rw [hm, hM] at h2
    have HA := Lib.hid (areCards_any d _ _ _ (ints_two w a b (I64_nat (by omega)) (I64_nat (by omega))))
    rw [h2] at HA
    clear h2 hp hdim hsz ha hb hne
    generalize thirdN d a b = t at *
    go_enter Try.func18, Try.ntmps18
    go_wp2_with fail
    refine HA.out.mono ?_
    rintro e w' ⟨rfl, rfl⟩
    go_wp2_with fail
    refine (HT.out _).mono ?_
    rintro e w' ⟨rfl, rfl⟩
    go_wp2
    go_ret2
    exact ⟨rfl, (Below.refl _ _).alloc (Nat.le_refl _) _⟩
  · have c2 : b < a := by omega
    have hm : min (a:Int) b = b := by omega
    have hM : max (a:Int) b = a := by omega
    rw [hm, hM] at h2
    have HA := Lib.hid (areCards_any d _ _ _ (ints_two w b a (I64_nat (by omega)) (I64_nat (by omega))))
    rw [h2] at HA
    clear h2 hp hdim hsz ha hb hne
    generalize thirdN d a b = t at *
    go_enter Try.func18, Try.ntmps18
    go_wp2_with fail
    refine HA.out.mono ?_
    rintro e w' ⟨rfl, rfl⟩
    go_wp2_with fail
    refine (HT.out _).mono ?_
    rintro e w' ⟨rfl, rfl⟩
    go_wp2
    go_ret2
    exact ⟨rfl, (Below.refl _ _).alloc (Nat.le_refl _) _⟩

set_option maxHeartbeats 1000000 in
theorem awake_any (w : World) : Calls Try.prog 24 #[] w fun e w' => e = .returned (.bool true) ∧ Below w.heap.size w w' := by
  have HT := Lib.hid (Third_any 1 0 1 w (by decide) (by decide) (by decide) (by decide) (by decide))
  rw [show thirdN 1 0 1 = 2 from rfl] at HT
  go_enter Try.func24, Try.ntmps24
  go_wp2_with fail
  refine HT.out.mono ?_
  rintro e w1 ⟨rfl, hb1⟩
  have HB1 := Lib.hid hb1
  clear hb1
  go_wp2
  go_ret
  exact ⟨rfl, HB1.out⟩
end Go.Proofs.Ytlalfjkenkmojaa
