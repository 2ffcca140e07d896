/- how long colourings can avoid sums and progressions -/
import Derived.Test.YtlalfjkenkmojaaKm
import Derived.Test.YtlalfjkenkmojaaKn
import Derived.Test.YtlalfjkenkmojaaKo
namespace Go.Proofs.Ytlalfjkenkmojaa

theorem keepsL_take {f : List Nat → Nat → Bool} {l : List Nat} (h : keepsL f l = true) (m : Nat) : keepsL f (l.take m) = true := by
  rw [keepsL_iff] at h ⊢
  intro i hi
  rw [List.length_take] at hi
  have := h i (by omega)
  rw [List.take_take, Nat.min_eq_left (by omega), take_getD (by omega)]
  exact this
theorem found_of {f : List Nat → Nat → Bool} {c n : Nat} {r : List Nat} (h : firstN f c n [] = some r) : r.length = n ∧ (∀ x ∈ r, x < c) ∧ keepsL f r = true := by
  obtain ⟨s, h1, h2, h3, h4⟩ := firstN_some n h
  rw [List.nil_append] at h1
  subst h1
  exact ⟨h2, h3, (goes_nil _).1 h4⟩
theorem none_of {f : List Nat → Nat → Bool} {c m n : Nat} (h : ∀ s, s.length = m → (∀ x ∈ s, x < c) → keepsL f s = true → False) (hn : m ≤ n) : firstN f c n [] = none := by
  cases hf : firstN f c n [] with
  | none => rfl
  | some r =>
    obtain ⟨h1, h2, h3⟩ := found_of hf
    exact (h (r.take m) (by rw [List.length_take]; omega) (fun x hx => h2 x (List.mem_of_mem_take hx)) (keepsL_take h3 m)).elim
theorem none_up {f : List Nat → Nat → Bool} {c m n : Nat} (h : (firstN f c m []).isNone = true) (hn : m ≤ n) : firstN f c n [] = none :=
  none_of (fun s h1 h2 h3 => firstN_none m (Option.isNone_iff_eq_none.1 h) s h1 h2 ((goes_nil s).2 h3)) hn
theorem some_down {f : List Nat → Nat → Bool} {c n : Nat} (e : List Nat) (h : ((e.all fun x => decide (x < c)) && keepsL f e) = true) (hn : n ≤ e.length) : ∃ r, firstN f c n [] = some r := by
  rw [Bool.and_eq_true, List.all_eq_true] at h
  cases hf : firstN f c n [] with
  | some r => exact ⟨r, rfl⟩
  | none => exact (firstN_none n hf (e.take n) (by rw [List.length_take]; omega) (fun x hx => of_decide_eq_true (h.1 x (List.mem_of_mem_take hx))) ((goes_nil _).2 (keepsL_take h.2 n))).elim
def limS : Nat → Nat
  | 1 => 1 | 2 => 4 | 3 => 13 | _ => 0
def limW : Nat → Nat
  | 1 => 2 | 2 => 8 | 3 => 26 | _ => 0
def limV : Nat → Nat
  | 1 => 3 | 2 => 34 | 3 => 40 | _ => 0
theorem exS1 : (([0] : List Nat).all (fun x => decide (x < 1)) && keepsL sumFree [0]) = true := by decide +kernel
theorem exS2 : (([0,1,1,0] : List Nat).all (fun x => decide (x < 2)) && keepsL sumFree [0,1,1,0]) = true := by decide +kernel
theorem exS3 : (([0,1,1,0,2,2,0,2,2,0,1,1,0] : List Nat).all (fun x => decide (x < 3)) && keepsL sumFree [0,1,1,0,2,2,0,2,2,0,1,1,0]) = true := by decide +kernel
theorem exW1 : (([0,0] : List Nat).all (fun x => decide (x < 1)) && keepsL (strideB 3) [0,0]) = true := by decide +kernel
theorem exW2 : (([0,0,1,1,0,0,1,1] : List Nat).all (fun x => decide (x < 2)) && keepsL (strideB 3) [0,0,1,1,0,0,1,1]) = true := by decide +kernel
theorem exW3 : (([0,0,1,1,0,0,1,2,1,2,2,0,2,0,0,1,0,1,1,2,0,2,2,1,2,1] : List Nat).all (fun x => decide (x < 3)) && keepsL (strideB 3) [0,0,1,1,0,0,1,2,1,2,2,0,2,0,0,1,0,1,1,2,0,2,2,1,2,1]) = true := by decide +kernel
theorem exV1 : (([0,0,0] : List Nat).all (fun x => decide (x < 1)) && keepsL (strideB 4) [0,0,0]) = true := by decide +kernel
theorem exV2 : (([0,0,1,0,0,0,1,1,1,0,1,0,0,1,0,0,0,1,1,1,0,1,0,0,1,0,0,0,1,1,1,0,1,1] : List Nat).all (fun x => decide (x < 2)) && keepsL (strideB 4) [0,0,1,0,0,0,1,1,1,0,1,0,0,1,0,0,0,1,1,1,0,1,0,0,1,0,0,0,1,1,1,0,1,1]) = true := by decide +kernel
theorem exV3 : (([0,0,0,1,0,0,1,0,0,0,1,1,1,2,0,0,0,1,0,1,1,1,2,2,2,0,0] : List Nat).all (fun x => decide (x < 3)) && keepsL (strideB 4) [0,0,0,1,0,0,1,0,0,0,1,1,1,2,0,0,0,1,0,1,1,1,2,2,2,0,0]) = true := by decide +kernel
theorem schur_yes {n c : Nat} (h1 : 1 ≤ c) (h3 : c ≤ 3) (hn : n ≤ limS c) : ∃ r, firstN sumFree c n [] = some r := by
  rcases (show c = 1 ∨ c = 2 ∨ c = 3 by omega) with rfl | rfl | rfl
  · exact some_down _ exS1 hn
  · exact some_down _ exS2 hn
  · exact some_down _ exS3 hn
theorem schur_no {n c : Nat} (h1 : 1 ≤ c) (h3 : c ≤ 3) (hn : limS c < n) : firstN sumFree c n [] = none := by
  rcases (show c = 1 ∨ c = 2 ∨ c = 3 by omega) with rfl | rfl | rfl
  · exact none_up noS1 hn
  · exact none_up noS2 hn
  · exact none_up noS3 hn
theorem wa_yes {n c : Nat} (h1 : 1 ≤ c) (h3 : c ≤ 3) (hn : n ≤ limW c) : ∃ r, firstN (strideB 3) c n [] = some r := by
  rcases (show c = 1 ∨ c = 2 ∨ c = 3 by omega) with rfl | rfl | rfl
  · exact some_down _ exW1 hn
  · exact some_down _ exW2 hn
  · exact some_down _ exW3 hn
theorem no27 (s : List Nat) (h1 : s.length = 27) (h2 : ∀ x ∈ s, x < 3) (h3 : keepsL (strideB 3) s = true) : False :=
  noW_sound s h1 h2 ((keeps3 s).1 h3) 27 0 0 0 0 0 0 (Nat.le_refl _) ⟨fun j hj => by simp at hj, fun m hm => by simp at hm⟩ ⟨fun j hj => by simp at hj, fun m hm => by simp at hm⟩ ⟨fun j hj => by simp at hj, fun m hm => by simp at hm⟩ noW27
theorem no35 (s : List Nat) (h1 : s.length = 35) (h2 : ∀ x ∈ s, x < 2) (h3 : keepsL (strideB 4) s = true) : False :=
  noV_sound s h1 h2 ((keeps4 s).1 h3) 35 0 0 (Nat.le_refl _) (fun j hj => by simp at hj) (fun j hj => by simp at hj) noV35
theorem wa_no {n c : Nat} (h1 : 1 ≤ c) (h3 : c ≤ 3) (hn : limW c < n) : firstN (strideB 3) c n [] = none := by
  rcases (show c = 1 ∨ c = 2 ∨ c = 3 by omega) with rfl | rfl | rfl
  · exact none_up noT1 hn
  · exact none_up noT2 hn
  · exact none_of no27 hn
theorem wv_yes {n c : Nat} (h1 : 1 ≤ c) (h3 : c ≤ 3) (h5 : c = 3 → n ≤ 27) (hn : n ≤ limV c) : ∃ r, firstN (strideB 4) c n [] = some r := by
  rcases (show c = 1 ∨ c = 2 ∨ c = 3 by omega) with rfl | rfl | rfl
  · exact some_down _ exV1 hn
  · exact some_down _ exV2 hn
  · exact some_down _ exV3 (h5 rfl)
theorem wv_no {n c : Nat} (h1 : 1 ≤ c) (h3 : c ≤ 3) (h5 : c = 3 → n ≤ 27) (hn : limV c < n) : firstN (strideB 4) c n [] = none := by
  rcases (show c = 1 ∨ c = 2 ∨ c = 3 by omega) with rfl | rfl | rfl
  · exact none_up noU1 hn
  · exact none_of no35 hn
  · have := h5 rfl
    have h6 : 40 < n := hn
    omega
theorem lim_le {n c : Nat} (h1 : 1 ≤ c) (h3 : c ≤ 3) (h5 : c = 3 → n ≤ 27) (hn : n ≤ limS c) : n ≤ limW c ∧ n ≤ limV c := by
  rcases (show c = 1 ∨ c = 2 ∨ c = 3 by omega) with rfl | rfl | rfl
  · have h6 : n ≤ 1 := hn
    exact ⟨show n ≤ 2 by omega, show n ≤ 3 by omega⟩
  · have h6 : n ≤ 4 := hn
    exact ⟨show n ≤ 8 by omega, show n ≤ 34 by omega⟩
  · have h6 : n ≤ 13 := hn
    exact ⟨show n ≤ 26 by omega, show n ≤ 40 by omega⟩
end Go.Proofs.Ytlalfjkenkmojaa
