/- the map of the elements met: keys are arrays of bytes -/
import Derived.Test.YtlnbodpdgebflaaMj
import Derived.Maps.OwnSet
import Derived.DeepKeys4
namespace Go.Proofs.Ytlnbodpdgebflaa
open Go.RowKit
open Go.Maps (Keyed)

theorem u120 : Try.prog.underlying 120 = some (.map 117 3) := by kernel_rfl
theorem laid : laidOutB Try.prog = true := by kernel_rfl
theorem row117 : (117 : TypeId) < Try.prog.types.size := of_decide_eq_true (by kernel_rfl)
theorem wide117 : (match Try.prog.underlying 117 with | some (.array _ _) | some (.struct _) => true | _ => false) = true := by rw [u117]
set_option maxRecDepth 100000 in
theorem key117 : Keyed Try.prog 117 := Keyed.of_law (deep_law_laid laid (m := 2) (by omega) row117 (by kernel_rfl) wide117)
/-- What element i reads as, as a key. -/
def Kl (g i : Nat) (l : Lit) : Prop := keyOf Try.prog 117 (.agg (byt (tn g i))) = some l
set_option maxRecDepth 100000 in
theorem klB_ok : ((List.range 17).all fun g => (List.range (nE g)).all fun i => (keyOf Try.prog 117 (.agg (byt (tn g i)))).isSome) = true := by decide +kernel
theorem kl_ex {g i : Nat} (hg : g < 17) (hi : i < nE g) : ∃ l, Kl g i l :=
  Option.isSome_iff_exists.1 (List.all_eq_true.1 (List.all_eq_true.1 klB_ok g (List.mem_range.2 hg)) i (List.mem_range.2 hi))
theorem kl_ne {g i j : Nat} {a b : Lit} (hg : g < 17) (hi : i < nE g) (hj : j < nE g) (ha : Kl g i a) (hb : Kl g j b) (h : i ≠ j) : a ≠ b := by
  intro e
  subst e
  have h2 := key117.inj ha hb
  simp only [Value.agg.injEq] at h2
  have h3 := byt_inj h2
  rcases Nat.lt_or_ge j i with hlt | hge
  · obtain ⟨p, hp, q⟩ := (tx hg hi).2.2.2.2 j hlt
    exact q (h3 p hp)
  · obtain ⟨p, hp, q⟩ := (tx hg hj).2.2.2.2 i (by omega)
    exact q (h3 p hp).symm

/-- The map knows just the first n elements. -/
def MapOk (g n : Nat) (D : DataW Unit) : Prop := Maps.IsMap D ∧ ∀ i l, i < nE g → Kl g i l → if i < n then Maps.has D l = true ∧ D.atKey l (.lit (.int .i64 0)) = .lit (.int .i64 i) else Maps.has D l = false
theorem MapOk.start (g : Nat) : MapOk g 0 (.map []) := ⟨Maps.isMap_empty, fun i _ _ _ => by rw [if_neg (by omega)]; rfl⟩
theorem MapOk.put {g n : Nat} {D : DataW Unit} {l : Lit} (h : MapOk g n D) (hg : g < 17) (hn : n < nE g) (hl : Kl g n l) : MapOk g (n + 1) (D.put l (.lit (.int .i64 n))) := by
  refine ⟨h.1.put _ _, fun i m hi hm => ?_⟩
  have hk := key117.key hl
  by_cases e : i = n
  · subst e
    obtain rfl : m = l := by unfold Kl at hl hm; rw [hl] at hm; exact (Option.some.inj hm).symm
    rw [if_pos (by omega)]
    exact ⟨Maps.has_put_same h.1 hk _, Maps.atKey_put_same h.1 hk _ _⟩
  · have hne := kl_ne hg hi hn hm hl e
    have := h.2 i m hi hm
    rw [Maps.has_put_other hne, Maps.atKey_put_other hne]
    by_cases hlt : i < n
    · rw [if_pos hlt] at this; rw [if_pos (by omega)]; exact this
    · rw [if_neg hlt] at this; rw [if_neg (by omega)]; exact this

/-- A map's literal entry. -/
theorem wpList_insert_own {H : Type} {P : Program} (w : World) {ops : Array Oper} {rest : List Oper} {o : Oper} {a : Act} {Q : Exit → Act → World → Prop} (hg : o.guard = none) (m x v : Operand) (t : TypeId) (hop : o.op = Op.insert t m x v)
    (k e : TypeId) (K : Keyed P k) (ht : P.underlying t = some (.map k e)) (R : Value → Option (DataW H × List MemPlace)) (b n : Nat) (D : DataW H)
    (hm : a.eval m = .map (some b)) (hown : w.ownsMap P k R b n D) (hn : n < maxLen) (key val : Value) (kl : Lit) (hx : a.eval x = key) (hv : a.eval v = val) (hkey : keyOf P k key = some kl)
    (d : DataW H) (ps : List MemPlace) (hval : R val = some (d, ps))
    (hK : ∀ w', w'.ownsMap P k R b (n + 1) (D.put kl d) → w.grownBy w' (some b) → wpList P ops Q rest (a.put o.dst undef) w') :
    wpList P ops Q (o :: rest) a w := by
  refine wpList_plain hg fun K' hK' => ?_
  obtain ⟨w', hrun, r1, r2⟩ := hown.update K ht hn hkey hval
  unfold Oper.wp
  simp [execOp, hop, hm, hx, hv, hrun, Result.andThen]
  exact hK' _ _ (hK w' r1 r2)
end Go.Proofs.Ytlnbodpdgebflaa
