/- Fillings -/
import Derived.Test.YtpblbolflnjjnaaWm
namespace Go.Proofs.Ytpblbolflnjjnaa
open Go.RowKit

abbrev IntRows3 : World → Value → List (List (List Int)) → Prop := SlOf IntRows

theorem IntRows3.below {w w' : World} {B : Nat} {v : Value} {xs : List (List (List Int))} (h : IntRows3 w v xs) (hb : Below B w w') (hB : w.heap.size ≤ B) : IntRows3 w' v xs :=
  SlOf.below h hb hB fun _ _ h => h.below hb hB

theorem collect_visit (vb : Nat) (f : Fb) (hfv : f.fv = .func (.func 67) #[] #[.pointer (some ⟨vb, 0, none⟩)]) (hn : f.caps.length ≤ 100) (hgl : f.gs.length = f.caps.length) (hcaps : ∀ c ∈ f.caps, c ≤ 100) :
    Visit f (AllI vb f.w0.heap.size) 67 #[.pointer (some ⟨vb, 0, none⟩)] where
  fv := hfv
  enters := Try.call67
  keeps := fun acc w w' fp h hk hs => by
    obtain ⟨h1, h2, fpe, v, us, he, h3, h4, h5, h6, h7⟩ := h
    refine ⟨h1, fun k hk' => ⟨(h2 k hk').1, Nat.lt_of_lt_of_le (h2 k hk').2 hs⟩, fpe, v, us, he, (hk vb h1).trans h3, ?_, h5, h6, fun i u xss a b => (h7 i u xss a b).keep (fun k hk' => hk k (he k hk').1) hs fun k h => h⟩
    obtain ⟨hl, hx⟩ := h4
    refine ⟨hl, ?_⟩
    rcases hx with hx | ⟨g, cap, cur, hv, hg, hh, r⟩
    · exact .inl hx
    · exact .inr ⟨g, cap, cur, hv, hg, (hk g (h5 g (by rw [hv]; rfl)).1).trans hh, r⟩
  fits := fun acc w fp h => h.2.1
  call := fun acc w fp rs left hs h _ hM => by
    refine collect_any vb f.w0.heap.size f.rowsVal rs acc w fp h (hs.rows (by omega) hcaps) (by rw [hs.hrs]; omega) hM ?_ hs.hbel.size
    intro xs hxs
    obtain ⟨i, hi, rfl⟩ := List.mem_iff_getElem.1 hxs
    have hi' : i < f.gs.length := by rw [← hs.hrs]; exact hi
    have e : rs.getD i [] = rs[i] := by simp [List.getD, hi]
    have h1 := hs.lens i hi'
    have h2 : f.caps.getD i 0 ≤ 100 := hcaps _ (by have : i < f.caps.length := by omega
                                                   simp [List.getD, this])
    rw [e] at h1
    refine ⟨by omega, fun x hx => ?_⟩
    have := hs.hnum _ hxs x hx
    exact ⟨by omega, by omega⟩

/-- What a call of Fillings leaves. -/
def FilPost (l m : List Int) (w : World) (e : Ending) (w' : World) : Prop :=
  ∃ ao c, e = .returned (.tuple #[.slice ao (if shB l && coB m then fillS l m else []).length c, .int .i64 (if shB l && coB m then 0 else 2)]) ∧
    IntRows3 w' (.slice ao (if shB l && coB m then fillS l m else []).length c) (if shB l && coB m then fillS l m else []) ∧ Below w.heap.size w w'

set_option maxHeartbeats 1000000 in
theorem fillingsAll_any (w : World) (vl vm : Value) (l m : List Int) (hvl : Ints w vl l) (hvm : Ints w vm m) :
    Calls Try.prog 19 #[vl, vm] w (FilPost l m w) := by
  have hvb : (w.alloc (.cells #[.slice none 0 0] 23)).heap[w.heap.size]? = some (.cells #[.slice none 0 0] 23 (0, 0)) := by
    show (w.heap.push _)[_]? = _
    simp
  have mkI : ∀ w', Below (w.alloc (.cells #[.slice none 0 0] 23)).heap.size (w.alloc (.cells #[.slice none 0 0] 23)) w' → AllI w.heap.size w.heap.size [] w' (fun k => k = w.heap.size) := fun w' hb => by
    have h := (hb.block w.heap.size (by simp)).trans hvb
    refine ⟨rfl, fun k hk => ⟨by omega, by rw [hk]; exact lt_of_block h⟩, fun _ => False, .slice none 0 0, [], fun k hk => hk.elim, h, World.ownsRow_nil _ _ _ _, fun g hg => (by cases hg), rfl, fun i u xss hu => (by simp at hu)⟩
  have hf := fillings_any w (w.alloc (.cells #[.slice none 0 0] 23)) ((Below.refl _ _).alloc (Nat.le_refl _) _) vl vm (.func (.func 67) #[] #[.pointer (some ⟨w.heap.size, 0, none⟩)]) l m hvl hvm ⟨_, _, _, rfl⟩ (AllI w.heap.size w.heap.size) 67 _
    (fun f h0 hfv hn hgl hc => by have := collect_visit w.heap.size f hfv hn hgl hc; rw [h0] at this; exact this) [] (fun k => k = w.heap.size) (mkI _ (Below.refl _ _)) mkI rfl
  have HF := hidIt hf
  clear hf hvl hvm hvb mkI
  go_enter Try.func19, Try.ntmps19
  go_wp2_with fail
  refine HF.out.mono ?_
  intro e w1 hq
  unfold FillingsPost at hq
  unfold FilPost
  by_cases hc : (shB l && coB m) = true
  · rw [if_pos hc] at hq
    obtain ⟨rfl, fp', ⟨_, _, fpe, v, us, _, h3, h4, _, h6, h7⟩, hm, _⟩ := hq
    rw [List.nil_append] at h4 h6 h7
    obtain ⟨ao, c, rfl⟩ := owns_form h4
    have cc := cell_of_one h3
    have hlen := fillS_len (m := m) (l := l) (of_decide_eq_true (by simp at hc; exact hc.1))
    have hR : IntRows3 w1 (.slice ao (fillS l m).length c) (fillS l m) := ⟨us, Sl.of_owns h4 (by omega), h6, fun i u x a b => h7 i u x a b w1 (fun _ _ => rfl) (Nat.le_refl _)⟩
    have hb : Below w.heap.size w w1 := ((Below.refl _ _).alloc (Nat.le_refl _) _).trans (hm.below (B := w.heap.size) (by simp) (fun k hk => by omega))
    have HC := hidIt hc
    have HR := hidIt hR
    clear hc HF hR h3 h4 h6 h7 hlen
    generalize hn : (fillS l m).length = n at *
    have HN := hidIt hn
    clear hn
    go_wp2
    go_ret2
    refine ⟨ao, c, ?_⟩
    rw [if_pos HC.out, if_pos HC.out, HN.out]
    exact ⟨rfl, HR.out, hb⟩
  · rw [if_neg hc] at hq
    obtain ⟨rfl, rfl⟩ := hq
    have HC := hidIt hc
    clear hc HF
    go_wp2
    go_ret2
    refine ⟨none, 0, ?_⟩
    rw [if_neg HC.out, if_neg HC.out]
    exact ⟨rfl, ⟨[], ⟨none, 0, rfl, Nat.le_refl _, Nat.zero_le _, Nat.zero_le _, .inl rfl⟩, rfl, fun i u x h => by simp at h⟩, (Below.refl _ _).alloc (Nat.le_refl _) _⟩
end Go.Proofs.Ytpblbolflnjjnaa
