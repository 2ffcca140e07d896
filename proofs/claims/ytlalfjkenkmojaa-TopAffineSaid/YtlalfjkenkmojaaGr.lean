/- rulers: none is shorter than the known ones, by a search with masks of differences -/
import Derived.Test.YtlalfjkenkmojaaRm
namespace Go.Proofs.Ytlalfjkenkmojaa

def freeD (l : List Nat) (D x : Nat) : Bool := l.all fun y => !(D.testBit (x - y))
def addD (l : List Nat) (D x : Nat) : Nat := l.foldl (fun D y => D ||| (1 <<< (x - y))) D
/-- No ruler goes on from l (backward, D the differences) with m marks up to L. -/
def noR (L : Nat) : Nat → List Nat → Nat → Bool
  | 0, _, _ => false
  | m + 1, l, D => (List.range' (l.headD 0 + 1) (L - l.headD 0)).all fun x => !(freeD l D x) || noR L m (x :: l) (addD l D x)
theorem addD_bit {l : List Nat} {D x d : Nat} (h : (addD l D x).testBit d = true) : D.testBit d = true ∨ ∃ y ∈ l, d = x - y := by
  unfold addD at h
  induction l generalizing D with
  | nil => exact .inl h
  | cons y l ih =>
    rw [List.foldl_cons] at h
    rcases ih h with h | ⟨z, hz, e⟩
    · rw [Nat.testBit_or, Bool.or_eq_true] at h
      rcases h with h | h
      · exact .inl h
      · rw [Nat.one_shiftLeft, Nat.testBit_two_pow] at h
        simp at h
        exact .inr ⟨y, by simp, h.symm⟩
    · exact .inr ⟨z, by simp [hz], e⟩
theorem diffP_snoc (f : List Nat) (x : Nat) : diffP (f ++ [x]) (f ++ [x]).length = diffP f f.length ++ (List.range f.length).map fun j => x - f.getD j 0 := by
  rw [List.length_append, List.length_singleton, ← diffQ_end]
  unfold diffQ
  rw [snoc_last, diffP_congr (m := f) fun i hi => snoc_at hi]
  congr 1
  refine List.map_congr_left fun j hj => ?_
  rw [snoc_at (List.mem_range.1 hj)]
theorem noR_sound (L : Nat) (m : Nat) : ∀ (f : List Nat) (D : Nat), f ≠ [] → rulB f = true → (∀ d, D.testBit d = true → d ∈ diffP f f.length) → noR L m f.reverse D = true →
    ∀ s, s.length = m → rulB (f ++ s) = true → ¬ ∀ x ∈ s, x ≤ L := by
  induction m with
  | zero => intro f D _ _ _ h; exact absurd h (by simp [noR])
  | succ m ih =>
    intro f D hne hf hD h s hs hr hle
    obtain ⟨x, s, rfl⟩ : ∃ x t, s = x :: t := by
      cases s with
      | nil => simp at hs
      | cons x t => exact ⟨x, t, rfl⟩
    have hr2 : rulB ((f ++ [x]) ++ s) = true := by simpa using hr
    have hfx : rulB (f ++ [x]) = true := by
      have := (goes_rul hf).2 hr
      exact this.1
    have hx := hle x (by simp)
    obtain ⟨_, hu, hd⟩ := (rulB_iff _).1 hfx
    have hn : (diffP f f.length ++ (List.range f.length).map fun j => x - f.getD j 0).Nodup := by
      have := of_decide_eq_true hd
      rwa [diffP_snoc] at this
    have hdis := (List.nodup_append.1 hn).2.2
    have hmem : ∀ y ∈ f, ∃ j, j < f.length ∧ f.getD j 0 = y := fun y hy => by
      obtain ⟨j, hj, e⟩ := List.getElem_of_mem hy
      exact ⟨j, hj, by simp [hj, e]⟩
    have hlast : f.reverse.headD 0 < x := by
      have h1 := List.pairwise_append.1 hu
      refine h1.2.2 _ ?_ x (by simp)
      cases hrev : f.reverse with
      | nil => simp at hrev; exact absurd hrev hne
      | cons a b =>
        have : a ∈ f.reverse := by rw [hrev]; simp
        simpa using this
    unfold noR at h
    have h1 := List.all_eq_true.1 h x (by rw [List.mem_range'_1]; omega)
    have hfree : freeD f.reverse D x = true := by
      unfold freeD
      refine List.all_eq_true.2 fun y hy => ?_
      cases hb : D.testBit (x - y) with
      | false => rfl
      | true =>
        exfalso
        obtain ⟨j, hj, e⟩ := hmem y (by simpa using hy)
        exact hdis _ (hD _ hb) _ (List.mem_map.2 ⟨j, List.mem_range.2 hj, by rw [e]⟩) rfl
    rw [hfree] at h1
    have h2 : noR L m (f ++ [x]).reverse (addD f.reverse D x) = true := by
      rw [List.reverse_append]
      simpa using h1
    refine ih (f ++ [x]) _ (by simp) hfx (fun d hd' => ?_) h2 s (by simpa using hs) hr2 fun z hz => hle z (by simp [hz])
    rw [diffP_snoc, List.mem_append]
    rcases addD_bit hd' with h | ⟨y, hy, rfl⟩
    · exact .inl (hD _ h)
    · obtain ⟨j, hj, e⟩ := hmem y (by simpa using hy)
      exact .inr (List.mem_map.2 ⟨j, List.mem_range.2 hj, by rw [e]⟩)
theorem noR2 : noR 0 1 [0] 0 = true := by decide +kernel
theorem noR3 : noR 2 2 [0] 0 = true := by decide +kernel
theorem noR4 : noR 5 3 [0] 0 = true := by decide +kernel
theorem noR5 : noR 10 4 [0] 0 = true := by decide +kernel
theorem noR6 : noR 16 5 [0] 0 = true := by decide +kernel
theorem noR7 : noR 24 6 [0] 0 = true := by decide +kernel
def golN : Nat → Nat
  | 2 => 1 | 3 => 3 | 4 => 6 | 5 => 11 | 6 => 17 | 7 => 25 | _ => 0
/-- No ruler of n marks is shorter than the known length. -/
theorem gol_le {l : List Nat} (h : rulB l = true) (h7 : l.length ≤ 7) : golN l.length ≤ l.getD (l.length - 1) 0 := by
  obtain ⟨h0, hu, hd⟩ := (rulB_iff l).1 h
  cases l with
  | nil => exact Nat.zero_le _
  | cons a s =>
    obtain rfl : a = 0 := by simpa using h0
    have hlast : ∀ x ∈ s, x ≤ (0 :: s).getD ((0 :: s).length - 1) 0 := fun x hx => last_up hu (by simp [hx])
    have key : ∀ L m, noR L m [0] 0 = true → s.length = m → L < (0 :: s).getD ((0 :: s).length - 1) 0 := fun L m hn hm => by
      refine Nat.lt_of_not_le fun hle => ?_
      exact noR_sound L m [0] 0 (by simp) rul_zero (fun d hd' => by simp at hd') hn s hm h fun x hx => Nat.le_trans (hlast x hx) hle
    generalize (0 :: s).getD ((0 :: s).length - 1) 0 = q at *
    rw [List.length_cons] at h7 ⊢
    generalize s.length = m at *
    rcases (show m = 0 ∨ m = 1 ∨ m = 2 ∨ m = 3 ∨ m = 4 ∨ m = 5 ∨ m = 6 by omega) with rfl | rfl | rfl | rfl | rfl | rfl | rfl
    · exact Nat.zero_le _
    · exact key 0 1 noR2 rfl
    · exact key 2 2 noR3 rfl
    · exact key 5 3 noR4 rfl
    · exact key 10 4 noR5 rfl
    · exact key 16 5 noR6 rfl
    · exact key 24 6 noR7 rfl
end Go.Proofs.Ytlalfjkenkmojaa
