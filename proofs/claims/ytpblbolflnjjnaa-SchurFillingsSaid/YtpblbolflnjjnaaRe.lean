/- lists of fillings that a call makes -/
import Derived.Test.YtpblbolflnjjnaaRd
import Derived.Test.YtpblbolflnjjnaaWm
namespace Go.Proofs.Ytpblbolflnjjnaa
open Go.RowKit

/-- append of a slice to a row of the call's own: the array is the old one, or a new one. -/
theorem wpList_append_many {P : Program} {ops : Array Oper} {rest : List Oper} {o : Oper} {a : Act} {w : World} {Q : Exit → Act → World → Prop}
    (hg : o.guard = none) (s x : Operand) (t : TypeId) (hop : o.op = Op.call { callee := Callee.builtin Builtin.append, args := #[s, x], argTypes := #[t, t] })
    (base : Nat) (e : TypeId) (i : TypeInfo) (z : Value) (bytes : Nat) (ht : P.underlying t = some (.slice e)) (hi : P.info? e = some i) (hz : i.zero = some z)
    (hsize : i.size = 1) (hby : i.bytes = bytes) (hzs : z.cells.size = 1)
    (v : Value) (n : Nat) (xs : List Value) (hs : a.eval s = v) (hown : w.ownsRow base e 1 v n xs)
    (ad : Addr) (m c : Nat) (ys : List Value) (hx : a.eval x = .slice (some ad) m c) (hl : ys.length = m) (hm : 0 < m) (hnews : ∀ (j : Nat) (u : Value), ys[j]? = some u → w.cell? (ad.add j) = some u) (h1 : ∀ u ∈ ys, u.oneCell' = true)
    (h63 : n + m ≤ maxLen) (hbytes : (n + m) * bytes ≤ 140737488355328) (hbase : base ≤ w.heap.size)
    (hK : ∀ ao c w', w'.ownsRow base e 1 (.slice ao (n + m) c) (n + m) (xs ++ ys) → w.grownBy w' v.ownBlock → (∀ g, (Value.slice ao (n + m) c).ownBlock = some g → v.ownBlock = some g ∨ w.heap.size ≤ g) → wpList P ops Q rest (a.put o.dst (.slice ao (n + m) c)) w') :
    wpList P ops Q (o :: rest) a w := by
  refine wpList_plain hg fun K hK' => ?_
  have hw : Region.wanted o (yielded ops a.tmps) = true := by simp [Region.wanted, hg]
  have grow : ∀ (ao : Option Addr) (cap : Nat), v = .slice ao n cap → (ao = none → n = 0 ∧ cap = 0) → (∀ b, ao = some b → ∀ (j : Nat) (u : Value), xs[j]? = some u → w.cell? (b.add j) = some u) → cap < n + m →
      Oper.wp P o a w K Q := by
    intro ao cap hv hnone hold hcap
    have h := step_append_grows (P := P) (ops := ops) (o := o) (a := a) (w := w) (K := K) (Q := Q) (E := False) hg s x t hop e i z 1 bytes ht hi hz hsize hby hzs (by decide) ao n cap xs (by rw [hs, hv]) hnone hown.1 hold ad m c ys hx (by omega) hnews h1 hcap h63 hbytes (by
      intro v' w' ho' hg'
      obtain ⟨ao', c', rfl⟩ : ∃ ao c, v' = .slice ao (n + m) c := by
        obtain ⟨_, h2⟩ := ho'
        rcases h2 with ⟨_, h⟩ | ⟨g, cap, cur, rfl, _⟩
        · omega
        · exact ⟨_, _, rfl⟩
      exact hK' _ _ (hK ao' c' w' (owns_mono ho' hbase) (grownBy_none hg') fun g hgg => .inr (ho'.lt g hgg).1))
    rw [if_pos hw] at h
    exact h
  have hown' := hown
  obtain ⟨hl', h2⟩ := hown'
  rcases h2 with ⟨hv, hn⟩ | ⟨g, cap, cur, hv, hbg, hh, hnc, _⟩
  · subst hn
    exact grow none 0 hv (fun _ => ⟨rfl, rfl⟩) (fun b hb => by cases hb) (by omega)
  · by_cases hroom : n + m ≤ cap
    · rw [hv] at hown
      refine wp_append_own_spare w s x t hop base e i 1 ht hi hsize g n cap xs (by rw [hs, hv]) hown ad m c ys hx (by omega) hnews h1 hroom ?_
      intro w' ho' hg'
      refine hK' _ _ (hK _ _ w' ho' (by rw [hv]; exact hg') fun k hk => .inl (by rw [hv]; exact hk))
    · refine grow (some ⟨g, 0, none⟩) cap hv (fun h => by cases h) (fun b hb j u hu => ?_) (by omega)
      obtain rfl := Option.some.inj hb
      exact hown.cells (by rw [hv]; rfl) j u hu

/-- a list of fillings that a call has made since w. -/
def OutI (w : World) (v : Value) (acc : List (List (List Int))) (wr : World) : Prop :=
  ∃ (fpe : Nat → Prop) (us : List Value), (∀ k, fpe k → w.heap.size ≤ k ∧ k < wr.heap.size) ∧ wr.ownsRow w.heap.size 34 1 v acc.length us ∧ (∀ g, v.ownBlock = some g → ¬ fpe g) ∧
    us.length = acc.length ∧ (∀ (i : Nat) (u : Value) (xss : List (List Int)), us[i]? = some u → acc[i]? = some xss → u.oneCell' = true ∧ Rd wr fpe u xss) ∧ Below w.heap.size w wr ∧ (acc = [] → v = .slice none 0 0)

theorem OutI.nil (w : World) : OutI w (.slice none 0 0) [] w :=
  ⟨fun _ => False, [], fun _ h => h.elim, World.ownsRow_nil _ _ _ _, fun _ h => (by cases h), rfl, fun i u xss h => (by simp at h), Below.refl _ _, fun _ => rfl⟩

theorem OutI.keep {w wr w1 : World} {v : Value} {acc : List (List (List Int))} (h : OutI w v acc wr) (hb : Below wr.heap.size wr w1) : OutI w v acc w1 := by
  obtain ⟨fpe, us, h1, h2, h3, h4, h5, h6, h7⟩ := h
  exact ⟨fpe, us, fun k hk => ⟨(h1 k hk).1, Nat.lt_of_lt_of_le (h1 k hk).2 hb.size⟩, owns_below h2 hb (Nat.le_refl _), h3, h4,
    fun i u xss a b => ⟨(h5 i u xss a b).1, (h5 i u xss a b).2.keep (fun k hk => hb.block k (h1 k hk).2) hb.size fun k h => h⟩, h6.trans (hb.mono h6.size), h7⟩

/-- what another call has made is appended. -/
theorem OutI.join {w w4 w5 w6 : World} {v v3 : Value} {acc acc2 : List (List (List Int))} {fpe fpe2 : Nat → Prop} {us us2 : List Value} (hsz : w.heap.size ≤ w4.heap.size)
    (h1 : ∀ k, fpe k → w.heap.size ≤ k ∧ k < w4.heap.size) (h2 : w5.ownsRow w.heap.size 34 1 v acc.length us) (h2' : ∀ g, v.ownBlock = some g → g < w4.heap.size) (h3 : ∀ g, v.ownBlock = some g → ¬ fpe g) (h4 : us.length = acc.length)
    (h5 : ∀ (i : Nat) (u : Value) (xss : List (List Int)), us[i]? = some u → acc[i]? = some xss → u.oneCell' = true ∧ Rd w5 fpe u xss) (h6 : Below w.heap.size w w5)
    (k1 : ∀ k, fpe2 k → w4.heap.size ≤ k ∧ k < w5.heap.size) (k4 : us2.length = acc2.length) (k5 : ∀ (i : Nat) (u : Value) (xss : List (List Int)), us2[i]? = some u → acc2[i]? = some xss → u.oneCell' = true ∧ Rd w5 fpe2 u xss) (h45 : w4.heap.size ≤ w5.heap.size)
    (ho : w6.ownsRow w.heap.size 34 1 v3 (acc.length + acc2.length) (us ++ us2)) (hg : w5.grownBy w6 v.ownBlock) (hb : ∀ g, v3.ownBlock = some g → v.ownBlock = some g ∨ w5.heap.size ≤ g) (hne : acc2 ≠ []) : OutI w v3 (acc ++ acc2) w6 := by
  have keep1 : ∀ k, fpe k → w6.heap[k]? = w5.heap[k]? := fun k hk => hg.block k (by have := (h1 k hk).2; omega) fun e => h3 k e.symm hk
  have keep2 : ∀ k, fpe2 k → w6.heap[k]? = w5.heap[k]? := fun k hk => hg.block k (k1 k hk).2 fun e => by have := h2' k e.symm; have := (k1 k hk).1; omega
  refine ⟨fun k => fpe k ∨ fpe2 k, us ++ us2, ?_, by rw [List.length_append]; exact ho, ?_, by simp [h4, k4], ?_, ?_, fun h => absurd (List.append_eq_nil_iff.1 h).2 hne⟩
  · have := hg.size
    rintro k (h | h)
    · have := h1 k h; omega
    · have := k1 k h; omega
  · intro g hg' hf
    rcases hb g hg' with h | h
    · rcases hf with hf | hf
      · exact h3 g h hf
      · have := h2' g h; have := (k1 g hf).1; omega
    · rcases hf with hf | hf
      · have := (h1 g hf).2; omega
      · have := (k1 g hf).2; omega
  · intro i u xss hu hx
    rcases Nat.lt_or_ge i us.length with hi | hi
    · rw [List.getElem?_append_left hi] at hu
      rw [List.getElem?_append_left (by omega)] at hx
      exact ⟨(h5 i u xss hu hx).1, (h5 i u xss hu hx).2.keep keep1 hg.size fun k h => .inl h⟩
    · rw [List.getElem?_append_right hi] at hu
      rw [List.getElem?_append_right (by omega)] at hx
      rw [← h4] at hx
      exact ⟨(k5 _ u xss hu hx).1, (k5 _ u xss hu hx).2.keep keep2 hg.size fun k h => .inr h⟩
  · exact h6.grown hg h6.size fun k hk => (h2.lt k hk).1
end Go.Proofs.Ytpblbolflnjjnaa
