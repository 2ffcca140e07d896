/- Kostka, Standard -/
import Derived.Test.YtpblbolflnjjnaaWj
namespace Go.Proofs.Ytpblbolflnjjnaa
open Go.RowKit

theorem wrap64_small (n : Nat) (h : n ≤ 16777216) : wrap64 (n : Int) = n := by
  unfold wrap64; omega

/-- The count in a captured variable. -/
def CountI (cb : Nat) (acc : List (List (List Int))) (w : World) (fp : Nat → Prop) : Prop :=
  (∀ k, fp k ↔ k = cb) ∧ w.heap[cb]? = some (.cells #[.int .i64 (wrap64 acc.length)] 3 (0, 0))

theorem wrap64_add (a b : Int) : wrap64 (wrap64 a + b) = wrap64 (a + b) := by
  unfold wrap64; omega

theorem count_any (cb : Nat) (rv : Value) (n : Nat) (w : World) (h : w.heap[cb]? = some (.cells #[.int .i64 (wrap64 n)] 3 (0, 0))) :
    Calls Try.prog 69 #[rv, .pointer (some ⟨cb, 0, none⟩)] w fun e w' => e = .returned (.tuple #[]) ∧ w' = w.setCell ⟨cb, 0, none⟩ (.int .i64 (wrap64 (n + 1))) := by
  have c1 := cell_of_one h
  have c2 := free_of_one h
  have HW : Hid (wrap64 (wrap64 (n : Int) + 1) = wrap64 ((n : Int) + 1)) := wrap64_add _ _
  obtain ⟨q, hq⟩ : ∃ q, q = wrap64 (n : Int) := ⟨_, rfl⟩
  rw [← hq] at c1 HW
  clear h hq
  go_enter Try.func69, Try.ntmps69
  go_wp2
  go_end0
  refine ⟨rfl, ?_⟩
  rw [← HW.out]

theorem count_visit (cb : Nat) (f : Fb) (h0 : f.w0.heap.size ≤ cb) (hfv : f.fv = .func (.func 69) #[] #[.pointer (some ⟨cb, 0, none⟩)]) : Visit f (CountI cb) 69 #[.pointer (some ⟨cb, 0, none⟩)] where
  fv := hfv
  enters := Try.call69
  keeps := fun acc w w' fp h hk _ => ⟨h.1, (hk cb ((h.1 cb).2 rfl)).trans h.2⟩
  fits := fun acc w fp h k hk => by
    obtain rfl := (h.1 k).1 hk
    exact ⟨h0, lt_of_block h.2⟩
  call := fun acc w fp rs left _ h _ _ => by
    refine (count_any cb f.rowsVal acc.length w h.2).mono ?_
    rintro e w' ⟨rfl, rfl⟩
    refine ⟨rfl, fp, ⟨h.1, ?_⟩, (Mod.refl _ _).setCell (.inl ((h.1 cb).2 rfl)) _, fun k h => .inl h⟩
    rw [one_setCell h.2, List.length_append]
    simp

/-- What a call of Kostka leaves. -/
def KostkaPost (l m : List Int) (w : World) (e : Ending) (w' : World) : Prop :=
  e = .returned (.tuple #[.int .i64 (if shB l && coB m then ((fillS l m).length : Int) else 0), .int .i64 (if shB l && coB m then 0 else 2)]) ∧ Below w.heap.size w w'

set_option maxHeartbeats 1000000 in
theorem kostka_any (w : World) (vl vm : Value) (l m : List Int) (hvl : Ints w vl l) (hvm : Ints w vm m) :
    Calls Try.prog 21 #[vl, vm] w (KostkaPost l m w) := by
  have hI : CountI w.heap.size [] (w.alloc (.cells #[.int .i64 0] 3)) (fun k => k = w.heap.size) := ⟨fun k => Iff.rfl, by
    show (w.heap.push _)[_]? = _
    simp [wrap64]⟩
  have hf := fillings_any w (w.alloc (.cells #[.int .i64 0] 3)) ((Below.refl _ _).alloc (Nat.le_refl _) _) vl vm (.func (.func 69) #[] #[.pointer (some ⟨w.heap.size, 0, none⟩)]) l m hvl hvm ⟨_, _, _, rfl⟩ (CountI w.heap.size) 69 _
    (fun f h0 hfv _ _ _ => count_visit w.heap.size f (by rw [h0]; exact Nat.le_refl _) hfv) [] (fun k => k = w.heap.size) hI (fun w' hb => ⟨fun k => Iff.rfl, (hb.block _ (by simp)).trans hI.2⟩) rfl
  have HF := hidIt hf
  clear hf hI hvl hvm
  go_enter Try.func21, Try.ntmps21
  go_wp2_with fail
  refine HF.out.mono ?_
  intro e w1 hq
  unfold FillingsPost at hq
  by_cases hc : (shB l && coB m) = true
  · rw [if_pos hc] at hq
    obtain ⟨rfl, fp', ⟨_, hcb⟩, hm, _⟩ := hq
    have cc := cell_of_one hcb
    rw [List.nil_append, wrap64_small _ (fillS_len (of_decide_eq_true (by simp at hc; exact hc.1)))] at cc
    have HC := hidIt hc
    have hb : Below w.heap.size w w1 := (hm.below (B := w.heap.size) (by simp) (fun k hk => by omega) |> fun h => ((Below.refl _ _).alloc (Nat.le_refl _) _).trans h)
    clear hc hcb HF
    generalize hn : ((fillS l m).length : Int) = n at cc
    have HN := hidIt hn
    clear hn
    go_wp2
    go_ret2
    refine ⟨?_, hb⟩
    rw [if_pos HC.out, if_pos HC.out, HN.out]; rfl
  · rw [if_neg hc] at hq
    obtain ⟨rfl, rfl⟩ := hq
    have HC := hidIt hc
    clear hc HF
    go_wp2
    go_ret2
    refine ⟨?_, (Below.refl _ _).alloc (Nat.le_refl _) _⟩
    rw [if_neg HC.out, if_neg HC.out]; rfl
end Go.Proofs.Ytpblbolflnjjnaa
