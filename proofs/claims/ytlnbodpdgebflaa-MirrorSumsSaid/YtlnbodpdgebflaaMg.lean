/- the groups' mathematics: products of elements, inverses -/
import Derived.Test.YtlnbodpdgebflaaOe
namespace Go.Proofs.Ytlnbodpdgebflaa
open Go.RowKit

theorem wdfol_chk : ((List.range 17).all fun g => (List.range (nE g)).all fun x => fol g 0 (wd g x) == x) = true := by decide +kernel
theorem wd_fol {g x : Nat} (hg : g < 17) (hx : x < nE g) : fol g 0 (wd g x) = x :=
  beq_iff_eq.1 (List.all_eq_true.1 (List.all_eq_true.1 wdfol_chk g (List.mem_range.2 hg)) x (List.mem_range.2 hx))
theorem inv_chk : ((List.range 17).all fun g => (List.range (nE g)).all fun x => (List.range (kM g)).all fun s => rt g (rt g x s) s == x) = true := by decide +kernel
theorem rt_rt {g x s : Nat} (hg : g < 17) (hx : x < nE g) (hs : s < kM g) : rt g (rt g x s) s = x :=
  beq_iff_eq.1 (List.all_eq_true.1 (List.all_eq_true.1 (List.all_eq_true.1 inv_chk g (List.mem_range.2 hg)) x (List.mem_range.2 hx)) s (List.mem_range.2 hs))
/-- The letters of words. -/
def Let (g : Nat) (l : List Nat) : Prop := ∀ s ∈ l, s < kM g
theorem Let.wd {g x : Nat} (hg : g < 17) (hx : x < nE g) : Let g (wd g x) := (tx hg hx).2.2.1
theorem Let.rev {g : Nat} {l : List Nat} (h : Let g l) : Let g l.reverse := fun s hs => h s (List.mem_reverse.1 hs)
theorem fol_cons (g y s : Nat) (l : List Nat) : fol g y (s :: l) = fol g (rt g y s) l := rfl
theorem fol_app (g y : Nat) (l l' : List Nat) : fol g y (l ++ l') = fol g (fol g y l) l' := by simp [fol]
theorem tn_lt {g x p : Nat} (hg : g < 17) (hx : x < nE g) (hp : p < 24) : tn g x p < 24 := (tx hg hx).2.2.2.1 p hp
theorem tn_inj {g x y : Nat} (hg : g < 17) (hx : x < nE g) (hy : y < nE g) (h : ∀ p, p < 24 → tn g x p = tn g y p) : x = y := by
  rcases Nat.lt_trichotomy x y with hlt | rfl | hlt
  · obtain ⟨p, hp, q⟩ := (tx hg hy).2.2.2.2 x hlt
    exact absurd (h p hp).symm q
  · rfl
  · obtain ⟨p, hp, q⟩ := (tx hg hx).2.2.2.2 y hlt
    exact absurd (h p hp) q
theorem tn_fol {g : Nat} (hg : g < 17) : ∀ (l : List Nat) (y : Nat), y < nE g → Let g l → (∀ p, p < 24 → tn g (fol g y l) p = tn g y (tn g (fol g 0 l) p)) := by
  intro l
  induction hn : l.length using Nat.strongRecOn generalizing l with
  | ind n ih =>
    intro y hy hl p hp
    rcases List.eq_nil_or_concat l with rfl | ⟨t, s, rfl⟩
    · show tn g y p = tn g y (tn g 0 p)
      rw [(tg hg).2.2.2.2.2.2.2.2 p hp]
    · have hs : s < kM g := hl s (by simp)
      have ht : Let g t := fun u hu => hl u (by simp [hu])
      have h0 := (tE hg).1
      have hf := fol_lt hg t y hy ht
      have hf0 := fol_lt hg t 0 h0 ht
      have hq := tn_lt hg (tb hg h0 hs).2.1 hp
      rw [List.concat_eq_append, fol_snoc, fol_snoc, (tb hg hf hs).2.2.2.2 p hp, (tb hg hf0 hs).2.2.2.2 p hp]
      exact ih t.length (by rw [← hn]; simp) t rfl y hy ht _ hq
/-- The product of two elements. -/
def mul (g y x : Nat) : Nat := fol g y (wd g x)
theorem fol_mul {g y : Nat} {l : List Nat} (hg : g < 17) (hy : y < nE g) (hl : Let g l) : fol g y l = mul g y (fol g 0 l) := by
  have h0 := (tE hg).1
  have hx := fol_lt hg l 0 h0 hl
  have hw := Let.wd hg hx
  refine tn_inj hg (fol_lt hg l y hy hl) (fol_lt hg _ y hy hw) fun p hp => ?_
  rw [tn_fol hg l y hy hl p hp]
  unfold mul
  rw [tn_fol hg _ y hy hw p hp, wd_fol hg hx]
/-- Undone backward. -/
theorem fol_undo {g : Nat} (hg : g < 17) : ∀ (l : List Nat) (y : Nat), y < nE g → Let g l → fol g (fol g y l) l.reverse = y
  | [], _, _, _ => rfl
  | s :: l, y, hy, hl => by
    have hs := hl s (by simp)
    have h1 := fol_undo hg l (rt g y s) (tb hg hy hs).2.1 (fun u hu => hl u (by simp [hu]))
    rw [fol_cons, List.reverse_cons, fol_app, h1]
    exact rt_rt hg hy hs
/-- The inverse. -/
def bk (g x : Nat) : Nat := fol g 0 (wd g x).reverse
theorem bk_lt {g x : Nat} (hg : g < 17) (hx : x < nE g) : bk g x < nE g := fol_lt hg _ 0 (tE hg).1 (Let.wd hg hx).rev
theorem fol_rev {g : Nat} {l : List Nat} (hg : g < 17) (hl : Let g l) : fol g 0 l.reverse = bk g (fol g 0 l) := by
  have h0 := (tE hg).1
  have hx := fol_lt hg l 0 h0 hl
  have ha := fol_lt hg l.reverse 0 h0 hl.rev
  have h1 : fol g (fol g 0 l.reverse) l = 0 := by
    have := fol_undo hg l.reverse 0 h0 hl.rev
    rwa [List.reverse_reverse] at this
  rw [fol_mul hg ha hl] at h1
  have h2 := fol_undo hg (wd g (fol g 0 l)) (fol g 0 l.reverse) ha (Let.wd hg hx)
  unfold mul at h1
  rw [h1] at h2
  exact h2.symm
theorem toN_nat (l : List Nat) : toN (nats l) = l := by
  unfold toN nats
  rw [List.map_map]
  conv => rhs; rw [← List.map_id l]
  exact List.map_congr_left fun x _ => rfl
theorem folI_nats (g : Nat) (l : List Nat) : folI g (nats l) = fol g 0 l := by unfold folI; rw [toN_nat]
theorem folI_rev {g : Nat} {l : List Int} (hg : g < 17) (h : wordB g l = true) : folI g l.reverse = bk g (folI g l) := by
  unfold folI toN
  rw [List.map_reverse]
  exact fol_rev hg (toN_lt (word_let h))
theorem word_nats {g : Nat} {l : List Nat} (hl : Let g l) (h : l.length ≤ 30) : wordB g (nats l) = true := by
  unfold wordB letB
  rw [Bool.and_eq_true, decide_eq_true_eq, List.all_eq_true]
  refine ⟨by rw [nats_length]; exact h, fun x hx => ?_⟩
  obtain ⟨y, hy, rfl⟩ := List.mem_map.1 hx
  have := hl y hy
  simp [mirB]; omega
theorem word_wd {g x : Nat} (hg : g < 17) (hx : x < nE g) : wordB g (nats (wd g x)) = true :=
  word_nats (Let.wd hg hx) (by have := (tx hg hx).2.1; unfold ln at this; omega)
theorem folI_wd {g x : Nat} (hg : g < 17) (hx : x < nE g) : folI g (nats (wd g x)) = x := by rw [folI_nats, wd_fol hg hx]
theorem fol_toN {g y : Nat} {l : List Int} (hg : g < 17) (hy : y < nE g) (h : wordB g l = true) : fol g y (toN l) = mul g y (folI g l) := fol_mul hg hy (toN_lt (word_let h))
theorem fol_wd (g y x : Nat) : fol g y (toN (nats (wd g x))) = mul g y x := by rw [toN_nat]; rfl
theorem mul_lt {g y x : Nat} (hg : g < 17) (hy : y < nE g) (hx : x < nE g) : mul g y x < nE g := fol_lt hg _ y hy (Let.wd hg hx)
end Go.Proofs.Ytlnbodpdgebflaa
