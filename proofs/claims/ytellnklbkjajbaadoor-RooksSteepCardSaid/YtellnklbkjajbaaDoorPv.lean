/- the reference's permutations -/
import Derived.Test.YtellnklbkjajbaaDoorRr
import Derived.Test.YtellnklbkjajbaaDoorHp
import Derived.Test.YtellnklbkjajbaaDoorRw
import Derived.ArgAppend
namespace Go.Proofs.YtellnklbkjajbaaDoor
open Go.RowKit

theorem wp_append_grows {P : Program} (w : World) {o : Oper} {a : Act} {K : Act → World → Prop} {Q : Exit → Act → World → Prop} (s x : Operand) (t : TypeId) (hop : o.op = Op.call { callee := Callee.builtin Builtin.append, args := #[s, x], argTypes := #[t, t] })
    (e : TypeId) (i : TypeInfo) (z : Value) (size bytes : Nat) (h1 : P.underlying t = some (.slice e)) (h2 : P.info? e = some i) (h3 : i.zero = some z) (h4 : i.size = size) (h5 : i.bytes = bytes) (h6 : z.cells.size = size) (h7 : 0 < size)
    (ao : Option Addr) (n cap : Nat) (olds : List Value) (hs : a.eval s = .slice ao n cap) (hnone : ao = none → n = 0 ∧ cap = 0) (hlo : olds.length = n * size) (holds : ∀ b, ao = some b → ∀ j u, olds[j]? = some u → w.cell? (b.add j) = some u)
    (ad : Addr) (m c : Nat) (news : List Value) (hx : a.eval x = .slice (some ad) m c) (hn : news.length = m * size) (hc : ∀ j u, news[j]? = some u → w.cell? (ad.add j) = some u) (h1c : ∀ u ∈ news, u.oneCell' = true)
    (hfull : cap < n + m) (b1 : n + m ≤ maxLen) (b2 : (n + m) * bytes ≤ 140737488355328)
    (hK : ∀ v' w', w'.ownsRow w.heap.size e size v' (n + m) (olds ++ news) → w.grownBy w' none → K (a.put o.dst v') w') : o.wp P a w K Q := by
  cases ao with
  | some b =>
    obtain ⟨v', w', hrun, r1, r2⟩ := run_append_arg_grows (P := P) w t o.type e i z size bytes h1 h2 h3 h4 h5 h6 h7 b n cap olds hlo (holds b rfl) ad m c news hn hc hfull b1 b2
    unfold Oper.wp
    simp [execOp, hop, resolve, invoke, builtin, hs, hx, hrun, Result.andThen]
    exact hK v' w' r1 r2
  | none =>
    obtain ⟨rfl, rfl⟩ := hnone rfl
    obtain rfl : olds = [] := List.eq_nil_of_length_eq_zero (by simpa using hlo)
    obtain ⟨v', w', hrun, r1, r2, _⟩ := run_append_own (P := P) w w.heap.size t o.type e i z size bytes h1 h2 h3 h4 h5 h6 h7 (.slice none 0 0) 0 [] (World.ownsRow_nil w _ e size) ad m c news hn hc h1c b1 b2 (Nat.le_refl _)
    unfold Oper.wp
    simp [execOp, hop, resolve, invoke, builtin, hs, hx, hrun, Result.andThen]
    exact hK v' w' r1 r2

/-- A slice of ints in a block of its own. -/
def Bg (B : Nat) (w : World) (v : Value) (p : List Nat) : Prop := w.ownsRow B 3 1 v (nats p).length (ints (nats p))
/-- Values that read as permutations. -/
def PV (B : Nat) (w : World) : List Value → List (List Nat) → Prop
  | [], [] => True
  | x :: xs, p :: ps => Bg B w x p ∧ PV B w xs ps
  | _, _ => False
theorem PV.append {B : Nat} {w : World} : ∀ {xs ys : List Value} {ps qs : List (List Nat)}, PV B w xs ps → PV B w ys qs → PV B w (xs ++ ys) (ps ++ qs)
  | [], _, [], _, _, h2 => h2
  | _ :: _, _, _ :: _, _, h1, h2 => ⟨h1.1, PV.append h1.2 h2⟩
  | [], _, _ :: _, _, h1, _ => h1.elim
  | _ :: _, _, [], _, h1, _ => h1.elim
theorem PV.imp {B : Nat} {w w' : World} (h : ∀ x p, Bg B w x p → Bg B w' x p) : ∀ {xs : List Value} {ps : List (List Nat)}, PV B w xs ps → PV B w' xs ps
  | [], [], _ => trivial
  | _ :: _, _ :: _, h1 => ⟨h _ _ h1.1, PV.imp h h1.2⟩
  | [], _ :: _, h1 => h1.elim
  | _ :: _, [], h1 => h1.elim
theorem PV.length {B : Nat} {w : World} : ∀ {xs : List Value} {ps : List (List Nat)}, PV B w xs ps → xs.length = ps.length
  | [], [], _ => rfl
  | _ :: _, _ :: _, h1 => by rw [List.length_cons, List.length_cons, PV.length h1.2]
  | [], _ :: _, h1 => h1.elim
  | _ :: _, [], h1 => h1.elim
theorem PV.one {B : Nat} {w : World} : ∀ {xs : List Value} {ps : List (List Nat)}, PV B w xs ps → ∀ u ∈ xs, u.oneCell' = true
  | [], [], _ => by simp
  | x :: xs, p :: ps, h1 => fun u hu => by
    rcases List.mem_cons.1 hu with rfl | hu
    · obtain ⟨ao, c, rfl⟩ := owns_form h1.1
      rfl
    · exact PV.one h1.2 u hu
  | [], _ :: _, h1 => h1.elim
  | _ :: _, [], h1 => h1.elim
theorem Bg.below {B : Nat} {w w' : World} {v : Value} {p : List Nat} (h : Bg B w v p) (hb : Below w.heap.size w w') : Bg B w' v p := by
  obtain ⟨h1, h2⟩ := h
  refine ⟨h1, ?_⟩
  rcases h2 with h2 | ⟨g, cap, cur, e1, e2, e3, e4⟩
  · exact .inl h2
  · exact .inr ⟨g, cap, cur, e1, e2, (hb.block g (lt_of_block e3)).trans e3, e4⟩
/-- A row of slices is written: the ints stay. -/
theorem Bg.row {B : Nat} {w w' : World} {v x : Value} {p : List Nat} {C n : Nat} {xs : List Value} (h : Bg B w x p) (ho : w.ownsRow C 22 1 v n xs) (hg : w.grownBy w' v.ownBlock) : Bg B w' x p := by
  refine World.ownsRow.kept h hg ?_
  obtain ⟨_, h2⟩ := h
  rcases h2 with ⟨rfl, _⟩ | ⟨g, cap, cur, rfl, _, e3, _⟩
  · exact .inl rfl
  · refine .inr fun e => ?_
    obtain ⟨_, h4⟩ := ho
    rcases h4 with ⟨rfl, _⟩ | ⟨g', cap', cur', rfl, _, e3', _⟩
    · cases e
    · have : g = g' := by simpa [Value.ownBlock] using e
      subst this
      rw [e3] at e3'
      cases e3'
theorem Bg.ints {B : Nat} {w : World} {v : Value} {p : List Nat} (h : Bg B w v p) (hl : p.length ≤ 1000) (hp : ∀ x ∈ p, x < 65536) : Nats w v p := Ints.of_owns h (by rw [nats_length]; omega) (nats_I64 hp)

theorem comps_len (full : Nat) (hf : full < 64) (m tk : Nat) (h : fl (sub full tk) = m) : (comps full m tk).length = fac m := by
  have h1 := wsum_comps full hf (List.replicate m 0) tk 0
  rw [wsum_cnt full _ tk 0 (fun r hr j hj => by rw [List.eq_of_mem_replicate hr, Nat.zero_testBit] at hj; cases hj) (by simpa using h), cnt_zero] at h1
  simp only [List.length_replicate, Nat.one_mul, Nat.sub_zero] at h1
  rw [← h1]
  have : (fun p => chooseN (sufH (List.replicate m 0) p) 0) = fun _ => 1 := by
    funext p
    cases sufH (List.replicate m 0) p <;> rfl
  rw [this]
  generalize comps full m tk = l
  induction l with
  | nil => rfl
  | cons a l ih => rw [List.length_cons, List.map_cons, List.sum_cons, ← ih]; omega
/-- What the loop has collected. -/
def cJ (full m tk : Nat) (q : List Nat) (j : Nat) : List (List Nat) := ((List.range j).filter fun j => (sub full tk).testBit j).flatMap fun j => (comps full m (tk ||| 2 ^ j)).map fun p => (q ++ [j]) ++ p
theorem cJ_succ (full m tk : Nat) (q : List Nat) (j : Nat) : cJ full m tk q (j + 1) = if (sub full tk).testBit j then cJ full m tk q j ++ (comps full m (tk ||| 2 ^ j)).map fun p => (q ++ [j]) ++ p else cJ full m tk q j := by
  unfold cJ
  generalize sub full tk = s
  rw [List.range_succ, List.filter_append, List.flatMap_append]
  cases h : s.testBit j <;> simp [List.filter, h]
theorem cJ_end {n : Nat} (hn : n ≤ 6) (m tk : Nat) (q : List Nat) : cJ (2 ^ n - 1) m tk q n = (comps (2 ^ n - 1) (m + 1) tk).map fun p => q ++ p := by
  have h6 := pw6 n hn
  have h2 : sub (2 ^ n - 1) tk < 2 ^ n := sub_le _ _ _ (by omega)
  rw [comps, elem8_elems _ (by omega), elems_range hn h2, List.map_flatMap, cJ]
  congr 1
  funext j
  rw [List.map_map]
  refine List.map_congr_left fun p _ => ?_
  simp
end Go.Proofs.YtellnklbkjajbaaDoor
