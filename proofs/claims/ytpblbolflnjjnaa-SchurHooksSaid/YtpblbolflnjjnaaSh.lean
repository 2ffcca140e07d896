/- All shapes, in a list. -/
import Derived.Test.YtpblbolflnjjnaaWl
namespace Go.Proofs.Ytpblbolflnjjnaa
open Go.RowKit

def gen : Nat → Nat → Nat → List (List Int)
  | 0, _, _ => [[]]
  | f + 1, most, rest => [] :: (List.range (min most rest)).flatMap fun k => (gen f (k + 1) (rest - (k + 1))).map fun t => ((k + 1 : Nat) : Int) :: t

def allShapes : List (List Int) := gen 8 8 8

def Dec : Nat → List Int → Prop
  | _, [] => True
  | most, x :: t => 1 ≤ x ∧ x ≤ most ∧ Dec x.toNat t

theorem dec_of {l : List Int} : ∀ (most : Nat), (∀ k, k < l.length → 1 ≤ l.getD k 0 ∧ (0 < k → l.getD k 0 ≤ l.getD (k - 1) 0)) → (0 < l.length → l.getD 0 0 ≤ most) → Dec most l := by
  induction l with
  | nil => intro _ _ _; trivial
  | cons x t ih =>
    intro most h hm
    have h0 := h 0 (by simp)
    have hm0 := hm (by simp)
    simp only [List.getD_cons_zero] at h0 hm0
    refine ⟨h0.1, hm0, ih x.toNat (fun k hk => ?_) fun hp => ?_⟩
    · have h1 := h (k + 1) (by simpa using hk)
      simp only [List.getD_cons_succ] at h1
      refine ⟨h1.1, fun hk0 => ?_⟩
      have h2 := h1.2 (by omega)
      obtain ⟨j, rfl⟩ : ∃ j, k = j + 1 := ⟨k - 1, by omega⟩
      simpa using h2
    · have h1 := (h (0 + 1) (by simpa using hp)).2 (by omega)
      rw [List.getD_cons_succ, Nat.add_sub_cancel, List.getD_cons_zero] at h1
      omega

theorem gen_mem : ∀ (f : Nat) (l : List Int) (most rest : Nat), l.length ≤ f → Dec most l → isum l ≤ rest → l ∈ gen f most rest := by
  intro f
  induction f with
  | zero =>
    intro l most rest hl _ _
    obtain rfl : l = [] := List.eq_nil_of_length_eq_zero (by omega)
    simp [gen]
  | succ f ih =>
    intro l most rest hl hd hs
    cases l with
    | nil => simp [gen]
    | cons x t =>
      obtain ⟨h1, h2, h3⟩ := hd
      have hpos : 0 ≤ isum t := by
        clear ih hs hl
        have : ∀ (l : List Int) (m : Nat), Dec m l → 0 ≤ isum l := by
          intro l
          induction l with
          | nil => intro _ _; simp [isum]
          | cons a t ih2 =>
            intro m h
            have := ih2 _ h.2.2
            have := h.1
            simp only [isum, List.sum_cons] at *
            omega
        exact this t _ h3
      have hst : isum (x :: t) = x + isum t := by simp [isum]
      obtain ⟨k, hk⟩ : ∃ k : Nat, x = ((k + 1 : Nat) : Int) := ⟨(x - 1).toNat, by omega⟩
      subst hk
      rw [Int.toNat_natCast] at h3
      refine List.mem_cons_of_mem _ (List.mem_flatMap.2 ⟨k, by rw [List.mem_range]; omega, List.mem_map.2 ⟨t, ih t (k + 1) (rest - (k + 1)) (by simpa using hl) h3 (by omega), rfl⟩⟩)

theorem shape_mem {l : List Int} (h : Shape l) : l ∈ allShapes :=
  gen_mem 8 l 8 8 h.1 (dec_of 8 (fun k hk => ⟨(h.2.1 k hk).1, (h.2.1 k hk).2.2⟩) fun hp => (h.2.1 0 hp).2.1) h.2.2

theorem allShapes_len : allShapes.length = 67 := by decide +kernel
end Go.Proofs.Ytpblbolflnjjnaa
