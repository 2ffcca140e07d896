/- Two laws more for regions that draw their order: a call by its contract; an append to a row of the call's own. -/
import Derived.Test.YtpblbolflnjjnaaLib
import Derived.Deep.RegionLaw
import Derived.Deep.RegionLawGrows
import Derived.Deep.DeepAppendRoom
namespace Go.Proofs.Ytpblbolflnjjnaa
open Go.RowKit

theorem step_append_own {P : Program} {ops : Array Oper} {o : Oper} {a : Act} {w : World} {K : Act → World → Prop} {Q : Exit → Act → World → Prop} {E : Prop}
    (hg : o.guard = none) (s x : Operand) (t : TypeId) (hop : o.op = Op.call { callee := Callee.builtin Builtin.append, args := #[s, x], argTypes := #[t, t] })
    (base : Nat) (e : TypeId) (i : TypeInfo) (z : Value) (size bytes : Nat) (ht : P.underlying t = some (.slice e)) (hi : P.info? e = some i) (hz : i.zero = some z)
    (hsize : i.size = size) (hby : i.bytes = bytes) (hzs : z.cells.size = size) (hsz : 0 < size)
    (v : Value) (n : Nat) (xs : List Value) (hs : a.eval s = v) (hown : w.ownsRow base e size v n xs)
    (ad : Addr) (m c : Nat) (news : List Value) (hx : a.eval x = .slice (some ad) m c) (hl : news.length = m * size) (hnews : ∀ (j : Nat) (u : Value), news[j]? = some u → w.cell? (ad.add j) = some u) (h1 : ∀ u ∈ news, u.oneCell' = true)
    (h63 : n + m ≤ maxLen) (hbytes : (n + m) * bytes ≤ 140737488355328) (hbase : base ≤ w.heap.size)
    (hK : ∀ v' w', w'.ownsRow base e size v' (n + m) (xs ++ news) → w.grownBy w' v.ownBlock → (v' = .slice none 0 0 ↔ v = .slice none 0 0 ∧ m = 0) → K (a.put o.dst v') w') :
    if Region.wanted o (yielded ops a.tmps) = true then Oper.wp P o a w K Q else E := by
  have hw : Region.wanted o (yielded ops a.tmps) = true := by simp [Region.wanted, hg]
  rw [if_pos hw]
  exact wp_append_own w s x t hop base e i z size bytes ht hi hz hsize hby hzs hsz v n xs hs hown ad m c news hx hl hnews h1 h63 hbytes hbase hK

theorem step_call1 {P : Program} {ops : Array Oper} {o : Oper} {a : Act} {w : World} {K : Act → World → Prop} {Q : Exit → Act → World → Prop} {E : Prop}
    (hg : o.guard = none) (f : Nat) (x : Operand) (t : TypeId) (hop : o.op = Op.call { callee := Callee.value (.func f), args := #[x], argTypes := #[t] })
    (hen : ∀ args w, (callFunc f args).run P w = .ok (Next.enter f args) w) (v : Value) (hx : a.eval x = v) {R : Ending → World → Prop} (h : Calls P f #[v] w R)
    (hK : ∀ e w', R e w' → ∃ v', e = .returned v' ∧ K (a.put o.dst v') w') :
    if Region.wanted o (yielded ops a.tmps) = true then Oper.wp P o a w K Q else E := by
  have hw : Region.wanted o (yielded ops a.tmps) = true := by simp [Region.wanted, hg]
  rw [if_pos hw]
  unfold Oper.wp
  have hrun : (execOp a.eval o).run P w = .ok (.enter f #[v]) w := by
    have he : a.eval (.func f) = .func (.func f) #[] #[] := rfl
    simp [execOp, hop, resolve, invoke, hx, he, hen, Deferred.ofValue]
  rw [hrun, Oper.upon_enter]
  refine h.mono fun e w' hR => ?_
  obtain ⟨v', rfl, hk⟩ := hK e w' hR
  exact hk

theorem grownBy_none {w w' : World} {r : Option Nat} (h : w.grownBy w' none) : w.grownBy w' r := ⟨h.os, h.tape, h.output, h.size, fun k hk _ => h.block k hk (by simp)⟩

/-- append of one element to a row of the call's own: the array is the old one, or a new one. -/
theorem step_append_one {P : Program} {ops : Array Oper} {o : Oper} {a : Act} {w : World} {K : Act → World → Prop} {Q : Exit → Act → World → Prop} {E : Prop}
    (hg : o.guard = none) (s x : Operand) (t : TypeId) (hop : o.op = Op.call { callee := Callee.builtin Builtin.append, args := #[s, x], argTypes := #[t, t] })
    (base : Nat) (e : TypeId) (i : TypeInfo) (z : Value) (bytes : Nat) (ht : P.underlying t = some (.slice e)) (hi : P.info? e = some i) (hz : i.zero = some z)
    (hsize : i.size = 1) (hby : i.bytes = bytes) (hzs : z.cells.size = 1)
    (v : Value) (n : Nat) (xs : List Value) (hs : a.eval s = v) (hown : w.ownsRow base e 1 v n xs)
    (ad : Addr) (c : Nat) (y : Value) (hx : a.eval x = .slice (some ad) 1 c) (hnews : ∀ (j : Nat) (u : Value), [y][j]? = some u → w.cell? (ad.add j) = some u) (h1 : ∀ u ∈ [y], u.oneCell' = true)
    (h63 : n + 1 ≤ maxLen) (hbytes : (n + 1) * bytes ≤ 140737488355328) (hbase : base ≤ w.heap.size)
    (hK : ∀ ao c w', w'.ownsRow base e 1 (.slice ao (n + 1) c) (n + 1) (xs ++ [y]) → w.grownBy w' v.ownBlock → (∀ g, (Value.slice ao (n + 1) c).ownBlock = some g → v.ownBlock = some g ∨ w.heap.size ≤ g) → K (a.put o.dst (.slice ao (n + 1) c)) w') :
    if Region.wanted o (yielded ops a.tmps) = true then Oper.wp P o a w K Q else E := by
  have grow : ∀ (ao : Option Addr) (cap : Nat), v = .slice ao n cap → (ao = none → n = 0 ∧ cap = 0) → (∀ b, ao = some b → ∀ (j : Nat) (u : Value), xs[j]? = some u → w.cell? (b.add j) = some u) → cap < n + 1 →
      if Region.wanted o (yielded ops a.tmps) = true then Oper.wp P o a w K Q else E := by
    intro ao cap hv hnone hold hcap
    refine step_append_grows hg s x t hop e i z 1 bytes ht hi hz hsize hby hzs (by decide) ao n cap xs (by rw [hs, hv]) hnone hown.1 hold ad 1 c [y] hx rfl hnews h1 hcap h63 hbytes ?_
    intro v' w' ho' hg'
    obtain ⟨ao', c', rfl⟩ : ∃ ao c, v' = .slice ao (n + 1) c := by
      obtain ⟨_, h2⟩ := ho'
      rcases h2 with ⟨_, h⟩ | ⟨g, cap, cur, rfl, _⟩
      · omega
      · exact ⟨_, _, rfl⟩
    exact hK ao' c' w' (owns_mono ho' hbase) (grownBy_none hg') fun g hgg => .inr (ho'.lt g hgg).1
  have hown' := hown
  obtain ⟨hl, h2⟩ := hown'
  rcases h2 with ⟨hv, hn⟩ | ⟨g, cap, cur, hv, hbg, hh, hnc, _⟩
  · subst hn
    exact grow none 0 hv (fun _ => ⟨rfl, rfl⟩) (fun b hb => by cases hb) (by omega)
  · by_cases hroom : n + 1 ≤ cap
    · have hw : Region.wanted o (yielded ops a.tmps) = true := by simp [Region.wanted, hg]
      rw [if_pos hw]
      rw [hv] at hown
      refine wp_append_own_spare w s x t hop base e i 1 ht hi hsize g n cap xs (by rw [hs, hv]) hown ad 1 c [y] hx rfl hnews h1 hroom ?_
      intro w' ho' hg'
      refine hK _ _ w' ho' (by rw [hv]; exact hg') fun k hk => .inl (by rw [hv]; exact hk)
    · refine grow (some ⟨g, 0, none⟩) cap hv (fun h => by cases h) (fun b hb j u hu => ?_) (by omega)
      obtain rfl := Option.some.inj hb
      exact hown.cells (by rw [hv]; rfl) j u hu
end Go.Proofs.Ytpblbolflnjjnaa
