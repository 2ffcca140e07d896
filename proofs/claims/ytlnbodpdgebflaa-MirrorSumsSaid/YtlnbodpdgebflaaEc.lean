/- a region whose last operation alone breaks what its loads rest on -/
import Derived.Test.YtlnbodpdgebflaaLib
import Derived.Deep.RegionHeld3
import Derived.Lib.Hide
namespace Go.Proofs.Ytlnbodpdgebflaa
open Go.RowKit

section
variable {P : Program} {ops : Array Oper} {Q : Exit → Act → World → Prop} {md : Region.Mode} {S : World → Prop} {z : Nat}

/-- What is done has all done that it waits for. -/
def Shutd (md : Region.Mode) (ops : Array Oper) (d : Array Bool) : Prop :=
  ∀ j o, ops[j]? = some o → d.getD j false = true → ∀ e ∈ o.after, Region.binds md e = true → d.getD e.on false = true
def shutB (md : Region.Mode) (ops : Array Oper) (d : Array Bool) : Bool :=
  (List.range ops.size).all fun j => match ops[j]? with
    | some o => !(d.getD j false) || o.after.all fun e => !(Region.binds md e) || d.getD e.on false
    | none => true
theorem shutB_spec {d : Array Bool} (h : shutB md ops d = true) : Shutd md ops d := by
  intro j o ho hj e he hb
  have hlt : j < ops.size := (Array.getElem?_eq_some_iff.1 ho).1
  have h1 := List.all_eq_true.1 h j (List.mem_range.2 hlt)
  simp only [ho, hj, Bool.not_true, Bool.false_or] at h1
  rw [Array.all_eq_true_iff_forall_mem] at h1
  have h2 := h1 e he
  simpa [hb] using h2
/-- Does the last operation wait for it, in f steps? -/
def waits (md : Region.Mode) (ops : Array Oper) (z : Nat) : Nat → Nat → Bool
  | 0, i => i == z
  | f + 1, i => i == z || (List.range ops.size).any fun j => (match ops[j]? with | some o => o.after.any (fun e => Region.binds md e && e.on == i) | none => false) && waits md ops z f j
theorem waits_done {d : Array Bool} (hc : Shutd md ops d) (hz : ∀ o, ops[z]? = some o → ∀ e ∈ o.after, Region.binds md e = true → d.getD e.on false = true) :
    ∀ f i, waits md ops z f i = true → i = z ∨ d.getD i false = true := by
  intro f
  induction f with
  | zero => intro i h; exact .inl (by simpa [waits] using h)
  | succ f ih =>
    intro i h
    rw [waits, Bool.or_eq_true, beq_iff_eq] at h
    rcases h with h | h
    · exact .inl h
    · obtain ⟨j, _, hj⟩ := List.any_eq_true.1 h
      rw [Bool.and_eq_true] at hj
      obtain ⟨h1, h2⟩ := hj
      cases ho : ops[j]? with
      | none => rw [ho] at h1; cases h1
      | some o =>
        rw [ho] at h1
        obtain ⟨e, he, h3⟩ := Array.any_eq_true'.1 h1
        rw [Bool.and_eq_true, beq_iff_eq] at h3
        obtain ⟨h4, rfl⟩ := h3
        rcases ih j h2 with rfl | h5
        · exact .inr (hz o ho e he h4)
        · exact .inr (hc j o ho h5 e he h4)

/-- What comes behind z waits for it. -/
def lateB (md : Region.Mode) (ops : Array Oper) (z : Nat) : Bool :=
  (List.range ops.size).all fun j => decide (j ≤ z) || (match ops[j]? with | some o => o.after.any (fun e => Region.binds md e && e.on == z) | none => false)
theorem lateB_spec (h : lateB md ops z = true) {j : Nat} {o : Oper} (hz : z < j) (ho : ops[j]? = some o) : ∃ e ∈ o.after, Region.binds md e = true ∧ e.on = z := by
  have hlt : j < ops.size := (Array.getElem?_eq_some_iff.1 ho).1
  have h1 := List.all_eq_true.1 h j (List.mem_range.2 hlt)
  rw [Bool.or_eq_true, decide_eq_true_eq, ho] at h1
  rcases h1 with h1 | h1
  · omega
  · obtain ⟨e, he, h3⟩ := Array.any_eq_true'.1 h1
    rw [Bool.and_eq_true, beq_iff_eq] at h3
    exact ⟨e, he, h3.1, h3.2⟩
/-- As wpAnyH, but from operation z on nothing is asked. -/
def Last (P : Program) (md : Region.Mode) (ops : Array Oper) (Q : Exit → Act → World → Prop) (S : World → Prop) (z : Nat) : Nat → Array Bool → Act → World → Prop
  | 0, d, a, w => Region.ready md ops d = [] ∧ Q .normal a w
  | f + 1, d, a, w => (Region.ready md ops d = [] → Q .normal a w) ∧
    ∀ i ∈ Region.ready md ops d, wpOp P ops Q i (fun b v => (z ≤ i ∨ S v) ∧ Last P md ops Q S z f (d.setIfInBounds i true) b v) a w
theorem Last.any : ∀ (f : Nat) (d : Array Bool) (a : Act) (w : World), Last P md ops Q S z f d a w → wpAny P md ops Q f d a w
  | 0, _, _, _, h => h
  | f + 1, _, _, _, h => ⟨h.1, fun i hi => wpOp_mono (fun b v hh => Last.any f _ b v hh.2) (h.2 i hi)⟩
theorem Shutd.step {d : Array Bool} (h : Shutd md ops d) {j : Nat} (hj : j ∈ Region.ready md ops d) : Shutd md ops (d.setIfInBounds j true) := by
  obtain ⟨_, oj, hoj, hall⟩ := mem_ready.1 hj
  have up : ∀ k, d.getD k false = true → (d.setIfInBounds j true).getD k false = true := fun k hk => by
    by_cases e : j = k
    · subst e
      have hl : j < d.size := by
        rcases Nat.lt_or_ge j d.size with h | h
        · exact h
        · simp [Array.getElem?_eq_none h] at hk
      simp [hl]
    · rw [getD_set_ne false e]; exact hk
  intro i o ho hi e he hb
  by_cases e1 : j = i
  · subst e1
    rw [hoj] at ho
    cases ho
    exact up _ (hall e he hb)
  · rw [getD_set_ne false e1] at hi
    exact up _ (h i o ho hi e he hb)
theorem last_take {i : Nat} {oi : Oper} {v : Value} (hi : ops[i]? = some oi) (hsel : ∀ (j : Nat) (o : Oper) cs b, ops[j]? = some o → o.op ≠ .select cs b)
    (hQ : ∀ c a w, Q (.panic c) (a.put oi.dst v) w → Q (.panic c) a w) {F : Nat} (hw : waits md ops z F i = true) (hiz : i ≠ z) (hlate : lateB md ops z = true) :
    ∀ (f : Nat) (d : Array Bool) (a : Act) (w : World), Shutd md ops d →
      (∀ j oj, ops[j]? = some oj → j ≠ i → d.getD j true = false → (∀ e ∈ oj.after, Region.binds md e = true → e.on ≠ i) → oi.apart ops oj = true) →
      i ∈ Region.ready md ops d → YieldsIf P ops S oi v a → S w →
      Last P md ops Q S z f (d.setIfInBounds i true) (a.put oi.dst v) w → Last P md ops Q S z (f + 1) d a w
  | 0, d, a, w, _, _, hr, hy, hS, H => by
    refine ⟨fun e => absurd (e ▸ hr) (by simp), fun j hj => ?_⟩
    rcases Decidable.em (j = i) with rfl | e
    · exact hy.wpOp hi hS ⟨.inr hS, H⟩
    · have h1 := ready_mono hj e
      rw [H.1] at h1
      exact absurd h1 (by simp)
  | f + 1, d, a, w, hc, hfr, hr, hy, hS, H => by
    refine ⟨fun e => absurd (e ▸ hr) (by simp), fun j hj => ?_⟩
    rcases Decidable.em (j = i) with rfl | e
    · exact hy.wpOp hi hS ⟨.inr hS, H⟩
    obtain ⟨hun, oj, hoj, hall⟩ := mem_ready.1 hj
    have hiun : d.getD i false = false := by
      have h := (mem_ready.1 hr).1
      rcases Nat.lt_or_ge i d.size with q | q
      · simpa [q] using h
      · simp [Array.getElem?_eq_none q]
    have hjz : ¬ z ≤ j := by
      intro hz
      have key : ∀ o, ops[z]? = some o → ∀ e ∈ o.after, Region.binds md e = true → d.getD e.on false = true := by
        rcases Nat.lt_or_ge z j with q | q
        · obtain ⟨e, he, hb, h4⟩ := lateB_spec hlate q hoj
          have h5 := hall e he hb
          rw [h4] at h5
          exact fun o ho e' he' hb' => hc z o ho h5 e' he' hb'
        · obtain rfl : j = z := by omega
          intro o ho
          rw [hoj] at ho; cases ho; exact hall
      rcases waits_done hc key F i hw with h1 | h1
      · exact hiz h1
      · rw [hiun] at h1; cases h1
    have hno : ∀ x ∈ oj.after, Region.binds md x = true → x.on ≠ i := fun x hx hb q => by
      have := hall x hx hb
      rw [q, hiun] at this
      cases this
    have h2 := wpOp_putIf hoj (hfr j oj hoj e hun hno) (fun cs b => hsel i oi cs b hi) (fun cs b => hsel j oj cs b hoj) hQ hy (H.2 j (ready_mono hj e))
    refine wpOp_mono (fun b v' h3 => ?_) h2
    have hS' : S v' := h3.2.1.resolve_left hjz
    refine ⟨.inr hS', last_take hi hsel hQ hw hiz hlate f _ b v' (hc.step hj) (fun k ok hk hki hku hkn => hfr k ok hk hki ?_ hkn) (ready_mono hr (Ne.symm e)) h3.1 hS' ?_⟩
    · rcases Decidable.em (j = k) with rfl | q
      · exact hun
      · rwa [getD_set_ne true q] at hku
    · rw [Array.setIfInBounds_comm _ _ e]
      exact h3.2.2
theorem Last.take {i : Nat} {oi : Oper} {v : Value} {f : Nat} {d : Array Bool} {a : Act} {w : World} (hi : ops[i]? = some oi)
    (hs : Region.noSelect ops = true) (hf : Region.free md ops d i = true) (hr : (Region.ready md ops d).contains i = true) (hw : waits md ops z ops.size i = true) (hiz : (i == z) = false) (hlate : lateB md ops z = true) (hc : shutB md ops d = true)
    (hQ : ∀ c a w, Q (.panic c) (a.put oi.dst v) w → Q (.panic c) a w) (hy : YieldsIf P ops S oi v a) (hS : S w)
    (h : Last P md ops Q S z f (d.setIfInBounds i true) (a.put oi.dst v) w) : Last P md ops Q S z (f + 1) d a w :=
  last_take hi (Region.noSelect_spec hs) hQ hw (by simpa using hiz) hlate f d a w (shutB_spec hc) (Region.free_spec hi hf) (by simpa using hr) hy hS h
/-- One operation alone may come up, and it is not the last. -/
theorem Last.one {i : Nat} {o : Oper} {f : Nat} {d : Array Bool} {a : Act} {w : World} (hr : Region.ready md ops d = [i]) (ho : ops[i]? = some o)
    (h : ∀ K' : Act → World → Prop, Hid (∀ a w, S w → (S w → Last P md ops Q S z f (d.setIfInBounds i true) a w) → K' a w) → if Region.wanted o (yielded ops a.tmps) = true then Oper.wp P o a w K' Q else K' (a.put o.dst undef) w) :
    Last P md ops Q S z (f + 1) d a w :=
  ⟨fun e => by (rw [hr] at e; cases e), fun j hj => by
    rw [hr] at hj
    obtain rfl : j = i := by simpa using hj
    exact wpOp_step ho fun K' hK => h K' (Lib.hid fun a w hS hL => hK a w ⟨.inr hS, hL hS⟩)⟩
/-- From operation z on. -/
theorem Last.late {i : Nat} {o : Oper} {f : Nat} {d : Array Bool} {a : Act} {w : World} (hr : Region.ready md ops d = [i]) (hz : decide (z ≤ i) = true) (ho : ops[i]? = some o)
    (h : ∀ K' : Act → World → Prop, Hid (∀ a w, Last P md ops Q S z f (d.setIfInBounds i true) a w → K' a w) → if Region.wanted o (yielded ops a.tmps) = true then Oper.wp P o a w K' Q else K' (a.put o.dst undef) w) :
    Last P md ops Q S z (f + 1) d a w :=
  ⟨fun e => by (rw [hr] at e; cases e), fun j hj => by
    rw [hr] at hj
    obtain rfl : j = i := by simpa using hj
    exact wpOp_step ho fun K' hK => h K' (Lib.hid fun a w hL => hK a w ⟨.inl (of_decide_eq_true hz), hL⟩)⟩
theorem Last.done {d : Array Bool} {a : Act} {w : World} (hn : Region.ready md ops d = []) (h : Q .normal a w) : ∀ f, Last P md ops Q S z f d a w
  | 0 => ⟨hn, h⟩
  | _ + 1 => ⟨fun _ => h, by rw [hn]; simp⟩
theorem region_last {id : Nat} {a : Act} {w : World} (z : Nat) (S : World → Prop) (hm : P.follows .mixedOrders = true) (hS : S w.drew)
    (h : S w.drew → Last P .any ops Q S z ops.size (Array.replicate ops.size false) a w.drew) : (Code.region id ops true).wp P Q a w :=
  wp_region_any hm (Last.any _ _ _ _ (h hS))
end
end Go.Proofs.Ytlnbodpdgebflaa
