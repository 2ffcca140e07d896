/- sets: the reference's Blocks is the program's -/
import Derived.Test.YtllokfkagneneaaY
import Derived.Test.YtllokfkagneneaaT3
namespace Go.Proofs.Ytllokfkagneneaa
open Go.RowKit

theorem cnt_mono (q l a b : Nat) (h : a ≤ b) : cnt q l a ≤ cnt q l b := by
  obtain ⟨d, rfl⟩ := Nat.le.dest h
  induction d with
  | zero => exact Nat.le_refl _
  | succ d ih =>
    refine Nat.le_trans (ih (by omega)) ?_
    cases h : onB q (a + d) l with
    | true => rw [show a + (d+1) = a + d + 1 by omega, cnt_yes q l _ h]; omega
    | false => rw [show a + (d+1) = a + d + 1 by omega, cnt_no q l _ h]; omega

theorem cntL_le_cnt (q l : Nat) (xs : List Int) (hin : InP q xs) (hr : Rises xs) : ∀ k : Nat, k ≤ xs.length → cntL q (xs.take k) l ≤ cnt q l (if k = 0 then 0 else (xs.getD (k-1) 0).toNat + 1) := by
  intro k
  induction k with
  | zero => intro _; rw [cntL_zero]; exact Nat.zero_le _
  | succ k ih =>
    intro hk
    have ih := ih (by omega)
    have hlt : k < xs.length := by omega
    rw [if_neg (by omega), show k + 1 - 1 = k by omega]
    have hx := hin k hlt
    have hle : (if k = 0 then 0 else (xs.getD (k-1) 0).toNat + 1) ≤ (xs.getD k 0).toNat := by
      by_cases h0 : k = 0
      · rw [if_pos h0]; exact Nat.zero_le _
      · rw [if_neg h0]
        have h1 := hr k hlt (by omega)
        have h2 := hin (k-1) (by omega)
        omega
    have hm := cnt_mono q l _ _ hle
    cases h : onB q (xs.getD k 0).toNat l with
    | true => rw [cntL_yes hlt h, cnt_yes q l _ h]; omega
    | false => rw [cntL_no hlt h, cnt_no q l _ h]; omega

/-- No line has more points of a set than p + 1. -/
theorem cntL_max (q l : Nat) (xs : List Int) (hq : isPn q) (hl : l < np q) (hin : InP q xs) (hr : Rises xs) : cntL q xs l ≤ q + 1 := by
  have h := cntL_le_cnt q l xs hin hr xs.length (Nat.le_refl _)
  rw [List.take_length] at h
  refine Nat.le_trans h ?_
  rw [← cnt_all q l hq hl]
  refine cnt_mono q l _ _ ?_
  by_cases h0 : xs.length = 0
  · rw [if_pos h0]; exact Nat.zero_le _
  · rw [if_neg h0]
    have := hin (xs.length - 1) (by omega)
    omega

theorem linesW_none (q : Nat) (n : Int) (xs : List Int) (k : Nat) : (linesW q n xs k).length = 0 ↔ ∀ l, l < k → ¬ (cntL q xs l : Int) = n := by
  simp [linesW, List.filter_eq_nil_iff]
theorem mostK_iff (q : Nat) (xs : List Int) (m n : Nat) : mostK q xs m ≤ n ↔ ∀ l, l < m → cntL q xs l ≤ n := by
  induction m with
  | zero => simp [mostK]
  | succ m ih =>
    rw [mostK_succ]
    constructor
    · intro h l hl
      by_cases e : l = m
      · subst e; omega
      · exact ih.1 (by omega) l (by omega)
    · intro h
      have h1 := ih.2 fun l hl => h l (by omega)
      have h2 := h m (by omega)
      omega

theorem blocks_same (q : Nat) (xs : List Int) (hq : isPn q) (hin : InP q xs) (hr : Rises xs) :
    blocksS q xs = ((missS q xs).length == 0 && decide (mostK q xs (np q) ≤ q)) := by
  unfold blocksS
  congr 1
  have e : (linesW q ((q:Int) + 1) xs (np q)).length = 0 ↔ mostK q xs (np q) ≤ q := by
    rw [linesW_none, mostK_iff]
    constructor
    · intro h l hl
      have h1 := h l hl
      have h2 := cntL_max q l xs hq hl hin hr
      omega
    · intro h l hl
      have h1 := h l hl
      omega
  by_cases c : mostK q xs (np q) ≤ q
  · rw [decide_eq_true c]; simpa using e.2 c
  · rw [decide_eq_false c]; simpa using fun h => c (e.1 h)

theorem len_take_set (q : Nat) (xs : List Int) (hin : InP q xs) (hr : Rises xs) : ∀ k : Nat, k < xs.length → (k : Int) ≤ xs.getD k 0 := by
  intro k
  induction k with
  | zero => intro h; have := hin 0 h; omega
  | succ k ih =>
    intro h
    have h1 := ih (by omega)
    have h2 := hr (k+1) h (by omega)
    rw [show k + 1 - 1 = k by omega] at h2
    omega
theorem set_short (q : Nat) (xs : List Int) (hq : isPn q) (hin : InP q xs) (hr : Rises xs) : xs.length ≤ 57 := by
  rcases Nat.eq_zero_or_pos xs.length with h | h
  · omega
  · have h1 := len_take_set q xs hin hr (xs.length - 1) (by omega)
    have h2 := hin (xs.length - 1) (by omega)
    have := np_le q hq.le.2
    omega

/-- What list leaves is a set if and only if the list is. -/
theorem setB_take (p : Int) (xs : List Int) : setB p (xs.take 60) = setB p xs := by
  by_cases hl : xs.length ≤ 60
  · rw [List.take_of_length_le hl]
  · have hn : ∀ ys : List Int, 60 ≤ ys.length → setB p ys = false := by
      intro ys hy
      cases hs : setB p ys with
      | false => rfl
      | true =>
        obtain ⟨q, rfl, hq, hin, hr⟩ := setB_of hs
        have := set_short q ys hq hin hr
        omega
    rw [hn xs (by omega), hn (xs.take 60) (by rw [List.length_take]; omega)]
theorem set_take (p : Int) (xs : List Int) (h : setB p xs = true) : xs.take 60 = xs := by
  obtain ⟨q, rfl, hq, hin, hr⟩ := setB_of h
  have := set_short q xs hq hin hr
  exact List.take_of_length_le (by omega)

set_option maxHeartbeats 4000000 in
theorem rBlocks_any (q : Nat) (v : Value) (xs : List Int) (w : World) (hq : isPn q) (h : Ints w v xs) (hin : InP q xs) (hr : Rises xs) :
    Calls Try.prog 53 #[.int .i64 q, v] w fun e w' => e = .returned (.bool (blocksS q xs)) ∧ Below w.heap.size w w' := by
  have HM := Lib.hid (rMiss_any q v xs w hq h hin)
  have HT := Lib.hid (fun w => table2_any q w hq)
  have HK := Lib.hid (fun t (w' : World) (hb : Below w.heap.size w w') (ht : Tab w' t q) => most_any q t v xs w' ht hq (h.below hb (Nat.le_refl _)) hin)
  have HS := Lib.hid (blocks_same q xs hq hin hr)
  have hmk := mostK_le q xs (np q)
  have hl57 := set_short q xs hq hin hr
  have hq7 := hq.le.2
  have hln : (missS q xs).length ≤ 57 := Nat.le_trans (linesW_le q 0 xs (np q)) (np_le q hq7)
  clear h hin hr hq
  generalize mostK q xs (np q) = mk at *
  go_enter Try.func53, Try.ntmps53
  go_wp2_with fail
  refine HM.out.mono ?_
  rintro e w1 ⟨v1, rfl, hown, hb1⟩
  obtain ⟨ao, c, rfl⟩ := owns_form hown
  have HB1 := Lib.hid hb1
  clear hown hb1 HM
  generalize (missS q xs).length = n0 at *
  by_cases h0 : n0 ≤ 0
  · have hd : ((n0 : Int) == 0) = true := by simp; omega
    have HS' : Hid (blocksS q xs = decide (mk ≤ q)) := by rw [HS.out, show (n0 == 0) = true by simpa using (by omega : n0 = 0)]; rfl
    clear h0
    go_wp2_with fail
    refine (HT.out w1).mono ?_
    rintro e w2 ⟨t, rfl, ht, hb2⟩
    have HB2 := Lib.hid (HB1.out.trans (hb2.mono HB1.out.size))
    have HK2 := Lib.hid (HK.out t w2 HB2.out ht)
    clear ht hb2 HK
    go_wp2_with fail
    refine HK2.out.mono ?_
    rintro e w3 ⟨rfl, rfl⟩
    by_cases hm : mk ≤ q
    · rw [decide_eq_true hm] at HS'
      go_wp2
      go_ret
      exact ⟨by rw [HS'.out]; rfl, HB2.out⟩
    · rw [decide_eq_false hm] at HS'
      have hdm : decide ((mk:Int) ≤ (q:Int)) = false := by simp; omega
      go_wp2
      go_ret
      exact ⟨by rw [HS'.out]; rfl, HB2.out⟩
  · have hd : ((n0 : Int) == 0) = false := by simp; omega
    have HS' : Hid (blocksS q xs = false) := by rw [HS.out, show (n0 == 0) = false by simpa using (by omega : ¬ n0 = 0)]; rfl
    clear h0
    go_wp2
    go_ret
    exact ⟨by rw [HS'.out]; rfl, HB1.out⟩
end Go.Proofs.Ytllokfkagneneaa
