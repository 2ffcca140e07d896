/- Fillings -/
import Derived.Test.YtpblbolflnjjnaaWk
import Derived.Test.YtpblbolflnjjnaaLaw
namespace Go.Proofs.Ytpblbolflnjjnaa
open Go.RowKit

theorem Try.info34 : (Try.prog.info? 34).map (fun i => (i.zero, i.size, i.bytes)) = some (some (.slice none 0 0), 1, 24) := by kernel_rfl

/-- u reads as xss in w, and in every world that agrees with w on fp. -/
def Rd (w : World) (fp : Nat → Prop) (u : Value) (xss : List (List Int)) : Prop := ∀ w' : World, (∀ k, fp k → w'.heap[k]? = w.heap[k]?) → w.heap.size ≤ w'.heap.size → IntRows w' u xss

theorem Rd.keep {w w' : World} {fp fp' : Nat → Prop} {u : Value} {xss : List (List Int)} (h : Rd w fp u xss) (hk : ∀ k, fp k → w'.heap[k]? = w.heap[k]?) (hs : w.heap.size ≤ w'.heap.size) (hf : ∀ k, fp k → fp' k) : Rd w' fp' u xss :=
  fun w2 h2 s2 => h w2 (fun k hk' => (h2 k (hf k hk')).trans (hk k hk')) (Nat.le_trans hs s2)

theorem owns_agree {w w' : World} {B : Nat} {e : TypeId} {size : Nat} {v : Value} {n : Nat} {xs : List Value} (h : w.ownsRow B e size v n xs) (hk : ∀ k, B ≤ k → k < w.heap.size → w'.heap[k]? = w.heap[k]?) : w'.ownsRow B e size v n xs := by
  obtain ⟨h1, h2⟩ := h
  refine ⟨h1, ?_⟩
  rcases h2 with h2 | ⟨g, cap, cur, hv, hg, hh, r⟩
  · exact .inl h2
  · exact .inr ⟨g, cap, cur, hv, hg, (hk g hg (lt_of_block hh)).trans hh, r⟩

theorem OwnRows.agree {w w' : World} {B : Nat} {v : Value} {xss : List (List Int)} (h : OwnRows w B v xss) (hk : ∀ k, B ≤ k → k < w.heap.size → w'.heap[k]? = w.heap[k]?) : OwnRows w' B v xss := by
  obtain ⟨vs, h1, h2, h3, h4⟩ := h
  exact ⟨vs, owns_agree h1 hk, h2, fun i u xs a b => owns_agree (h3 i u xs a b) hk, h4⟩

/-- All that has been found, in a captured variable. -/
def AllI (vb base : Nat) (acc : List (List (List Int))) (w : World) (fp : Nat → Prop) : Prop :=
  fp vb ∧ (∀ k, fp k → base ≤ k ∧ k < w.heap.size) ∧ ∃ (fpe : Nat → Prop) (v : Value) (us : List Value), (∀ k, fpe k → fp k ∧ k ≠ vb) ∧ w.heap[vb]? = some (.cells #[v] 23 (0, 0)) ∧ w.ownsRow base 34 1 v acc.length us ∧
    (∀ g, v.ownBlock = some g → fp g ∧ ¬ fpe g) ∧ us.length = acc.length ∧ ∀ (i : Nat) (u : Value) (xss : List (List Int)), us[i]? = some u → acc[i]? = some xss → Rd w fpe u xss

theorem collect_keep {w w1 w2 : World} {vb base n : Nat} {v x : Value} {us : List Value} {o : Obj} (h3 : w.heap[vb]? = some (.cells #[x] 23 (0, 0))) (h4 : w.ownsRow base 34 1 v n us) (hb1 : Below w.drew.heap.size w.drew w1)
    (hg : (w1.alloc o).grownBy w2 v.ownBlock) : w2.heap[vb]? = some (.cells #[x] 23 (0, 0)) := by
  have hlt := lt_of_block h3
  have h1 : (w1.alloc o).heap[vb]? = w.heap[vb]? := by
    rw [Below.heap_alloc _ _ _ (Nat.lt_of_lt_of_le hlt hb1.size)]
    exact hb1.block vb hlt
  rw [hg.block vb (Nat.lt_of_lt_of_le hlt (Nat.le_trans hb1.size (by simp))) ?_, h1, h3]
  intro e
  obtain ⟨_, h2⟩ := h4
  rcases h2 with ⟨rfl, _⟩ | ⟨g, cap, cur, rfl, _, hh, _⟩
  · cases e
  · simp only [Value.ownBlock, Option.some.injEq] at e
    exact types_ne h3 hh (by decide) e

theorem OwnRows.rd {w : World} {B : Nat} {v : Value} {xss : List (List Int)} {fp : Nat → Prop} (h : OwnRows w B v xss) (hn : xss.length ≤ 17592186044416) (hm : ∀ xs ∈ xss, xs.length ≤ 17592186044416 ∧ ∀ x ∈ xs, I64 x)
    (hf : ∀ k, B ≤ k → k < w.heap.size → fp k) : Rd w fp v xss :=
  fun w' hk _ => (h.agree (w' := w') fun k h1 h2 => hk k (hf k h1 h2)).read hn hm

/-- what the closure's call leaves. -/
theorem collect_done {w w1 w2 : World} {vb base : Nat} {rs : List (List Int)} {acc : List (List (List Int))} {fp fpe : Nat → Prop} {us : List Value} {v u : Value} {ao : Option Addr} {cc : Nat}
    (f1 : fp vb) (f2 : ∀ k, fp k → base ≤ k ∧ k < w.heap.size) (fe : ∀ k, fpe k → fp k ∧ k ≠ vb) (h3 : w.heap[vb]? = some (.cells #[v] 23 (0, 0))) (h4 : w.ownsRow base 34 1 v acc.length us) (h5 : ∀ g, v.ownBlock = some g → fp g ∧ ¬ fpe g)
    (h6 : us.length = acc.length) (h7 : ∀ (i : Nat) (u : Value) (xss : List (List Int)), us[i]? = some u → acc[i]? = some xss → Rd w fpe u xss) (hbase : base ≤ w.heap.size)
    (hb1 : Below w.drew.heap.size w.drew w1) (hu : OwnRows w1 w.heap.size u rs) (hn : rs.length ≤ 100) (hrs : ∀ xs ∈ rs, xs.length ≤ 100 ∧ ∀ x ∈ xs, I64 x) {o : Obj}
    (hown : w2.ownsRow base 34 1 (.slice ao (acc.length + 1) cc) (acc.length + 1) (us ++ [u])) (hg : (w1.alloc o).grownBy w2 v.ownBlock)
    (hblk : ∀ g, (Value.slice ao (acc.length + 1) cc).ownBlock = some g → v.ownBlock = some g ∨ (w1.alloc o).heap.size ≤ g) :
    ∃ fp', AllI vb base (acc ++ [rs]) (w2.setCell ⟨vb, 0, none⟩ (.slice ao (acc.length + 1) cc)) fp' ∧ Mod fp w (w2.setCell ⟨vb, 0, none⟩ (.slice ao (acc.length + 1) cc)) ∧ ∀ k, fp' k → fp k ∨ w.heap.size ≤ k := by
  have hk := collect_keep h3 h4 hb1 hg
  have hvlt : vb < w.heap.size := lt_of_block h3
  have s1 : w.heap.size ≤ w1.heap.size := hb1.size
  have s2 : w1.heap.size < w2.heap.size := Nat.lt_of_lt_of_le (by simp) hg.size
  have s3 : (w1.alloc o).heap.size = w1.heap.size + 1 := by simp
  have hsz : (w2.setCell ⟨vb, 0, none⟩ (.slice ao (acc.length + 1) cc)).heap.size = w2.heap.size := by simp [World.setCell]
  have old : ∀ k, k < w1.heap.size → some k ≠ v.ownBlock → w2.heap[k]? = w1.heap[k]? := fun k hk hne =>
    (hg.block k (Nat.lt_of_lt_of_le hk (by simp)) hne).trans (Below.heap_alloc _ _ _ hk)
  have hnot : ∀ k, w.heap.size ≤ k → some k ≠ v.ownBlock := fun k hk e => by
    have := (f2 k (h5 k e.symm).1).2
    omega
  have hgv : ∀ g, v.ownBlock = some g → g ≠ vb := fun g hg' e => by
    obtain ⟨_, h2⟩ := h4
    rcases h2 with ⟨rfl, _⟩ | ⟨g', cap, cur, rfl, _, hh, _⟩
    · cases hg'
    · simp only [Value.ownBlock, Option.some.injEq] at hg'
      subst hg' e
      exact types_ne h3 hh (by decide) rfl
  have agree : ∀ k, k < w.heap.size → k ≠ vb → some k ≠ v.ownBlock → (w2.setCell ⟨vb, 0, none⟩ (.slice ao (acc.length + 1) cc)).heap[k]? = w.heap[k]? := fun k h1 h2 h3' => by
    rw [Below.heap_setCell _ _ _ _ h2, old k (by omega) h3']
    exact hb1.block k h1
  refine ⟨fun k => fp k ∨ (w.heap.size ≤ k ∧ k < w2.heap.size), ⟨.inl f1, ?_, fun k => fpe k ∨ (w.heap.size ≤ k ∧ k < w1.heap.size), .slice ao (acc.length + 1) cc, us ++ [u], ?_, one_setCell hk, ?_, ?_, by simp [h6], ?_⟩, ?_, ?_⟩
  · rintro k (h | h)
    · have := f2 k h
      rw [hsz]; omega
    · rw [hsz]; omega
  · rintro k (h | h)
    · exact ⟨.inl (fe k h).1, (fe k h).2⟩
    · exact ⟨.inr (by omega), by omega⟩
  · rw [List.length_append, List.length_singleton]
    refine ownsRow_setCell_other hown (fun e => ?_) _
    rcases hblk _ e with h | h
    · exact hgv _ h rfl
    · simp only at h
      omega
  · intro g hgg
    rcases hblk g hgg with h | h
    · refine ⟨.inl (h5 g h).1, ?_⟩
      rintro (h' | h')
      · exact (h5 g h).2 h'
      · have := (f2 g (h5 g h).1).2
        omega
    · refine ⟨.inr ⟨by omega, (hown.lt g hgg).2⟩, ?_⟩
      rintro (h' | h')
      · have := (f2 g (fe g h').1).2
        omega
      · omega
  · intro i x xss hx hxs
    rcases Nat.lt_or_ge i us.length with hi | hi
    · rw [List.getElem?_append_left hi] at hx
      rw [List.getElem?_append_left (by omega)] at hxs
      refine (h7 i x xss hx hxs).keep (fun k hk => ?_) (by rw [hsz]; omega) (fun k hk => .inl hk)
      exact agree k (f2 k (fe k hk).1).2 (fe k hk).2 fun e => (h5 k e.symm).2 hk
    · have hi' : i = us.length := by
        have := (List.getElem?_eq_some_iff.1 hx).1
        simp at this; omega
      subst hi'
      rw [List.getElem?_append_right (Nat.le_refl _)] at hx
      rw [List.getElem?_append_right (by omega)] at hxs
      simp [h6] at hx hxs
      subst hx hxs
      have hrd : Rd w1 (fun k => w.heap.size ≤ k ∧ k < w1.heap.size) u rs := OwnRows.rd hu (by omega) (fun xs hxs => ⟨by have := (hrs xs hxs).1; omega, (hrs xs hxs).2⟩) (fun k h1 h2 => ⟨h1, h2⟩)
      refine hrd.keep (fun k hk => ?_) (by rw [hsz]; omega) (fun k hk => .inr hk)
      rw [Below.heap_setCell _ _ _ _ (show k ≠ vb by omega)]
      exact old k hk.2 (hnot k hk.1)
  · refine ⟨?_, ?_, ?_, by rw [hsz]; omega, fun k h1 h2 => agree k h1 (fun e => h2 (e ▸ f1)) fun e => h2 (h5 k e.symm).1⟩
    · exact hg.os.trans hb1.os
    · exact hg.tape.trans hb1.tape
    · exact hg.output.trans hb1.output
  · rintro k (h | h)
    · exact .inl h
    · exact .inr h.1

set_option maxRecDepth 100000 in
set_option maxHeartbeats 1000000 in
theorem collect_any (vb base : Nat) (rv : Value) (rs : List (List Int)) (acc : List (List (List Int))) (w : World) (fp : Nat → Prop) (h : AllI vb base acc w fp) (hrv : IntRows w rv rs) (hn : rs.length ≤ 100) (hm : acc.length < 16777216)
    (hrs : ∀ xs ∈ rs, xs.length ≤ 100 ∧ ∀ x ∈ xs, I64 x) (hbase : base ≤ w.heap.size) :
    Calls Try.prog 67 #[rv, .pointer (some ⟨vb, 0, none⟩)] w fun e w' => e = .returned (.tuple #[]) ∧ ∃ fp', AllI vb base (acc ++ [rs]) w' fp' ∧ Mod fp w w' ∧ ∀ k, fp' k → fp k ∨ w.heap.size ≤ k := by
  obtain ⟨h1, h2, fpe, v, us, he, h3, h4, h5, h6, h7⟩ := h
  obtain ⟨i0, hi0, hz0, hz1, hz2⟩ := info_parts Try.info34
  have c1 := cell_of_one h3
  have f1 := free_of_one h3
  obtain ⟨ao, cap, rfl⟩ := owns_form h4
  have hcl := clone_any rv rs w.drew (hrv.below (Below.drew (Below.refl _ _)) (Nat.le_refl _)) (by omega)
  have HCl := hidIt hcl
  clear hcl
  go_enter Try.func67, Try.ntmps67
  have hlen : acc.length + 1 ≤ maxLen := by unfold maxLen; omega
  have hby : (acc.length + 1) * 24 ≤ 140737488355328 := by omega
  have H4 := hidIt h4
  have HLen := hidIt hlen
  have HBy := hidIt hby
  have hvblt := lt_of_block h3
  have H7 := hidIt h7
  have HRS := hidIt hrs
  clear h4 hlen hby h7 hrs
  go_region_law (first | (refine step_call1 rfl 68 (.tmp 4) 34 rfl Try.call68 rv rfl HCl.out ?_; rintro e w1 ⟨v', rfl, hv', hb1⟩; obtain ⟨ao', cap', rfl⟩ := owns_form hv'.choose_spec.1; have cw1 := (hb1.cell (p := ⟨vb, 0, none⟩) hvblt).trans c1; have hvb1 : vb < w1.heap.size := Nat.lt_of_lt_of_le hvblt hb1.size; refine ⟨_, rfl, ?_⟩) | (refine step_append_one rfl (.tmp 3) (.tmp 6) 23 rfl base 34 i0 (.slice none 0 0) 24 Try.underlying23 hi0 hz0 hz1 hz2 rfl _ acc.length us rfl ((owns_below (World.ownsRow.drew H4.out) hb1 (Nat.le_refl _)).alloc _) ⟨w1.heap.size, 0, none⟩ 1 (.slice ao' rs.length cap') rfl (newOne _ _ _) (by intro u hu; simp at hu; subst hu; rfl) HLen.out HBy.out (Nat.le_trans hbase (Nat.le_trans hb1.size (by simp))) ?_; intro a2 cc2 w2 hown2 hg2 hblk2; have hk2 := collect_keep h3 H4.out hb1 hg2; have c2 := cell_of_one hk2; have f2 := free_of_one hk2))
  all_goals
    go_end0
    exact ⟨rfl, collect_done h1 h2 he h3 H4.out h5 h6 H7.out hbase hb1 hv' hn HRS.out hown2 hg2 hblk2⟩
end Go.Proofs.Ytpblbolflnjjnaa
