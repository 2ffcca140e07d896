/- the reference: Elements -/
import Derived.Test.YtlnbodpdgebflaaEe
namespace Go.Proofs.Ytlnbodpdgebflaa
open Go.RowKit

theorem wp_append_grows {P : Program} {w : World} {o : Oper} {a : Act} {K : Act → World → Prop} {Q : Exit → Act → World → Prop} (s x : Operand) (t : TypeId)
    (ho : o.op = .call { callee := .builtin .append, args := #[s, x], argTypes := #[t, t] })
    (e : TypeId) (i : TypeInfo) (z : Value) (size bytes : Nat) (h1 : P.underlying t = some (.slice e)) (h2 : P.info? e = some i) (h3 : i.zero = some z) (h4 : i.size = size) (h5 : i.bytes = bytes) (h6 : z.cells.size = size) (h7 : 0 < size)
    (ao : Option Addr) (n cap : Nat) (olds : List Value) (hs : a.eval s = .slice ao n cap) (hnone : ao = none → n = 0 ∧ cap = 0) (hlo : olds.length = n * size) (holds : ∀ b, ao = some b → ∀ j u, olds[j]? = some u → w.cell? (b.add j) = some u)
    (ad : Addr) (m c : Nat) (news : List Value) (hx : a.eval x = .slice (some ad) m c) (hn : news.length = m * size) (hc : ∀ j u, news[j]? = some u → w.cell? (ad.add j) = some u) (h1c : ∀ u ∈ news, u.oneCell' = true)
    (hfull : cap < n + m) (b1 : n + m ≤ maxLen) (b2 : (n + m) * bytes ≤ 140737488355328)
    (hK : ∀ v' w', w'.ownsRow w.heap.size e size v' (n + m) (olds ++ news) → w.grownBy w' none → K (a.put o.dst v') w') : o.wp P a w K Q := by
  cases ao with
  | some b =>
    obtain ⟨v', w', hrun, r1, r2⟩ := run_append_arg_grows (P := P) w t o.type e i z size bytes h1 h2 h3 h4 h5 h6 h7 b n cap olds hlo (holds b rfl) ad m c news hn hc hfull b1 b2
    unfold Oper.wp
    simp [execOp, ho, resolve, invoke, builtin, hs, hx, hrun, Result.andThen]
    exact hK v' w' r1 r2
  | none =>
    obtain ⟨rfl, rfl⟩ := hnone rfl
    obtain rfl : olds = [] := List.eq_nil_of_length_eq_zero (by simpa using hlo)
    obtain ⟨v', w', hrun, r1, r2, _⟩ := run_append_own (P := P) w w.heap.size t o.type e i z size bytes h1 h2 h3 h4 h5 h6 h7 (.slice none 0 0) 0 [] (World.ownsRow_nil w _ e size) ad m c news hn hc h1c b1 b2 (Nat.le_refl _)
    unfold Oper.wp
    simp [execOp, ho, resolve, invoke, builtin, hs, hx, hrun, Result.andThen]
    exact hK v' w' r1 r2

/-- The reference's table, as its readers meet it. -/
def RT (w : World) (g : Nat) (v : Value) : Prop := ∃ b0 c0 b1 c1 b2 c2, v = .agg #[.slice (some ⟨b0, 0, none⟩) (nE g) c0, .slice (some ⟨b1, 0, none⟩) (nE g) c1, .slice (some ⟨b2, 0, none⟩) (nE g) c2] ∧
  (Pts w b0 (nE g) (wd g) ∧ Pts w b1 (nE g) (pt g) ∧ Pts w b2 (nE g) (rw_ g)) ∧ nE g ≤ c0 ∧ nE g ≤ c1 ∧ nE g ≤ c2
theorem RT.below {w w' : World} {g : Nat} {v : Value} (h : RT w g v) (hb : Below w.heap.size w w') : RT w' g v := by
  obtain ⟨b0, c0, b1, c1, b2, c2, e, ⟨h0, h1, h2⟩, hc⟩ := h
  exact ⟨b0, c0, b1, c1, b2, c2, e, ⟨h0.below hb (Nat.le_refl _), h1.below hb (Nat.le_refl _), h2.below hb (Nat.le_refl _)⟩, hc⟩
theorem bg_nats {B : Nat} {W : World} {v : Value} {g x : Nat} (h : Bg B W v (pt g x)) (hg : g < 17) (hx : x < nE g) : Nats W v (pt g x) := Bg.nats h (by rw [pt_len]; have := (pg hg).1; omega) (pt_bd hg hx)
theorem cn_le {g m : Nat} (hg : g < 17) (hm : m ≤ nE g * kM g) : cn g m ≤ nE g := by
  have : ((List.range 17).all fun g => (List.range (nE g * kM g + 1)).all fun m => decide (cn g m ≤ nE g)) = true := by decide +kernel
  have h1 := List.all_eq_true.1 (List.all_eq_true.1 this g (List.mem_range.2 hg)) m (List.mem_range.2 (by omega))
  simpa using h1
theorem cn_le' {g x s : Nat} (hg : g < 17) {kn : Nat} (hk : kM g = kn) (hx : x < nE g) (hs : s < kn) : cn g (x * kn + s) ≤ nE g :=
  cn_le hg (by rw [hk]; exact Nat.le_trans (Nat.le_of_lt (by rw [Nat.succ_mul]; omega)) (Nat.mul_le_mul_right kn hx))
theorem cell_load {W : World} {vs : Nat → Value} {xs : Nat → List Value} {ns : Nat → Nat} {w : World} {g c b n k i : Nat} {v : Value} (h : ET w W g vs ns xs) (hc : c < 3) (hv : vs c = .slice (some ⟨b, 0, none⟩) n k) (hi : i < n) (hx : (xs c).getD i undef = v) : W.cell? ⟨b, i, none⟩ = some v := by
  have ho := h.own c hc
  rw [hv] at ho
  have hnn : n = ns c := by
    obtain ⟨_, h2⟩ := ho
    rcases h2 with ⟨e, _⟩ | ⟨_, _, _, e, _⟩
    · simp at e
    · simp only [Value.slice.injEq] at e; exact e.2.1
  subst hnn
  rw [own_cell ho hi, hx]
theorem ET.boxg {w W W' : World} {g : Nat} {vs : Nat → Value} {ns : Nat → Nat} {xs : Nat → List Value} (h : ET w W g vs ns xs) {c : Nat} (hc : c < 3) (hg : W.grownBy W' (vs c).ownBlock) :
    (W'.cell? ⟨w.heap.size + 1 + 1, 0, none⟩ = some (vs 0) ∧ W'.cell? ⟨w.heap.size + 1 + 1, 1, none⟩ = some (vs 1) ∧ W'.cell? ⟨w.heap.size + 1 + 1, 2, none⟩ = some (vs 2)) ∧
    (W'.frozen? ⟨w.heap.size + 1 + 1, 0, none⟩ = false ∧ W'.frozen? ⟨w.heap.size + 1 + 1, 1, none⟩ = false ∧ W'.frozen? ⟨w.heap.size + 1 + 1, 2, none⟩ = false) := by
  have b1 : Blk 39 W' (w.heap.size + 1 + 1) #[vs 0, vs 1, vs 2] := (hg.block _ h.box.lt (own_some (h.own c hc) (by omega))).trans h.box
  exact ⟨⟨b1.cell 0, b1.cell 1, b1.cell 2⟩, b1.fr 0, b1.fr 1, b1.fr 2⟩
theorem colP (g : Nat) : colD g 1 = pt g := by funext i; simp [colD]
theorem colW (g : Nat) : colD g 0 = wd g := by funext i; simp [colD]
theorem colR (g : Nat) : colD g 2 = rw_ g := by funext i; simp [colD]
theorem bg_word {W : World} {B B' : Nat} {v : Value} {n s : Nat} {l q : List Nat} (h : W.ownsRow B' 3 1 v (n + 1) (ints (nats l) ++ [.int .i64 (s : Nat)])) (hl : l.length = n) (hq : q = l ++ [s]) (hB : B ≤ B') : Bg B W v q := by
  subst hl hq
  unfold Bg
  rw [show (l ++ [s]).length = l.length + 1 by simp, show ints (nats (l ++ [s])) = ints (nats l) ++ [.int .i64 (s : Nat)] by simp [ints, nats]]
  exact owns_mono h hB
theorem ET.ow {w W : World} {g : Nat} {vs : Nat → Value} {ns : Nat → Nat} {xs : Nat → List Value} (h : ET w W g vs ns xs) {c : Nat} (hc : c < 3) {v : Value} {n : Nat} (hv : vs c = v) (hn : ns c = n) : W.ownsRow (w.heap.size + 3) 24 1 v n (xs c) := by
  subst hv hn; exact h.own c hc
theorem ET.grow {w W W' : World} {g : Nat} {vs : Nat → Value} {ns : Nat → Nat} {xs : Nat → List Value} (h : ET w W g vs ns xs) {c : Nat} (hc : c < 3) {u v v' : Value} {n : Nat} (hv : vs c = v) (hn : ns c = n) (hu : Bg (w.heap.size + 3) W u (colD g c n)) (hg : W.grownBy W' v.ownBlock) (hw : W'.ownsRow (w.heap.size + 3) 24 1 v' (n + 1) (xs c ++ [u]))
    (hloc : v'.ownBlock = v.ownBlock ∨ v'.ownBlock = some W.heap.size) : ET w (W'.setCell ⟨w.heap.size + 1 + 1, c, none⟩ v') g (upd vs c v') (upd ns c (n + 1)) (upd xs c (xs c ++ [u])) := by
  subst hv hn; exact h.push hc hu hg hw (h.fresh hloc)
theorem pts_of {W : World} {B b n k : Nat} {g c : Nat} {xs : List Value} (hg : g < 17) (ho : W.ownsRow B 24 1 (.slice (some ⟨b, 0, none⟩) n k) n xs) (hn : n ≤ nE g) (el : ∀ i, i < n → Bg B W (xs.getD i undef) (colD g c i)) : Pts W b n (colD g c) := fun i hi => by
  have h6 := el i hi
  obtain ⟨a, q, e⟩ := owns_form h6
  have hd := colD_bd (c := c) hg (show i < nE g by omega)
  refine ⟨a, q, by rw [own_cell ho hi, e], ?_⟩
  rw [e] at h6
  exact Bg.nats h6 (by omega) hd.2
theorem ET.final {w W : World} {g : Nat} {vs : Nat → Value} {ns : Nat → Nat} {xs : Nat → List Value} (h : ET w W g vs ns xs) (hg : g < 17) (h0 : ns 0 = nE g) (h1 : ns 1 = nE g) (h2 : ns 2 = nE g) (x y z : Value) :
    RT (((W.setCell ⟨w.heap.size + 1, 0, none⟩ x).setCell ⟨w.heap.size + 1, 1, none⟩ y).setCell ⟨w.heap.size + 1, 2, none⟩ z) g (.agg #[vs 0, vs 1, vs 2]) ∧
    Below w.heap.size w (((W.setCell ⟨w.heap.size + 1, 0, none⟩ x).setCell ⟨w.heap.size + 1, 1, none⟩ y).setCell ⟨w.heap.size + 1, 2, none⟩ z) := by
  have K : ∀ {V : World} {e n i : Nat} {v u : Value} {ys : List Value}, V.ownsRow (w.heap.size + 3) e 1 v n ys → (V.setCell ⟨w.heap.size + 1, i, none⟩ u).ownsRow (w.heap.size + 3) e 1 v n ys := fun hh =>
    World.ownsRow.kept hh (grown_cell _ _ _) (own_lt hh (by show w.heap.size + 1 < _; omega))
  have hE := tE hg
  have P : ∀ c, c < 3 → ns c = nE g → ∃ b k, vs c = .slice (some ⟨b, 0, none⟩) (nE g) k ∧ nE g ≤ k ∧ Pts (((W.setCell ⟨w.heap.size + 1, 0, none⟩ x).setCell ⟨w.heap.size + 1, 1, none⟩ y).setCell ⟨w.heap.size + 1, 2, none⟩ z) b (nE g) (colD g c) := fun c hc hn => by
    have ho := h.own c hc
    rw [hn] at ho
    obtain ⟨b, k, e, hk⟩ := own_lit ho hE.1
    rw [e] at ho
    exact ⟨b, k, e, hk, pts_of hg (K (K (K ho))) (Nat.le_refl _) fun i hi => K (K (K (h.el c hc i (by omega))))⟩
  obtain ⟨b0, k0, e0, hk0, p0⟩ := P 0 (by decide) h0
  obtain ⟨b1, k1, e1, hk1, p1⟩ := P 1 (by decide) h1
  obtain ⟨b2, k2, e2, hk2, p2⟩ := P 2 (by decide) h2
  rw [colW] at p0
  rw [colP] at p1
  rw [colR] at p2
  refine ⟨⟨b0, k0, b1, k1, b2, k2, by rw [e0, e1, e2], ⟨p0, p1, p2⟩, hk0, hk1, hk2⟩, ?_⟩
  exact below_cell (below_cell (below_cell h.b (a := ⟨w.heap.size + 1, 0, none⟩) (by show w.heap.size ≤ w.heap.size + 1; omega) x) (a := ⟨w.heap.size + 1, 1, none⟩) (by show w.heap.size ≤ w.heap.size + 1; omega) y) (a := ⟨w.heap.size + 1, 2, none⟩) (by show w.heap.size ≤ w.heap.size + 1; omega) z
/-- The beginning: nothing yet. -/
theorem ET.start (w : World) (g : Nat) : ET w (((w.alloc (.cells #[.int .u8 (kd g), .int .i64 (nm g)] 23)).alloc (.cells #[.slice none 0 0, .slice none 0 0, .slice none 0 0] 39)).alloc (.cells #[.slice none 0 0, .slice none 0 0, .slice none 0 0] 39)) g (fun _ => .slice none 0 0) (fun _ => 0) (fun _ => []) := by
  refine ⟨((Blk.new 23 w _).alloc _).alloc _, ?_, ?_, fun c _ => World.ownsRow_nil _ _ _ _, fun c _ i hi => by omega, fun c c' _ _ _ b h => by simp [Value.ownBlock] at h, (((Below.refl _ _).alloc (Nat.le_refl _) _).alloc (by simp) _).alloc (by simp; omega) _⟩
  · have := (Blk.new 39 (w.alloc (.cells #[.int .u8 (kd g), .int .i64 (nm g)] 23)) #[.slice none 0 0, .slice none 0 0, .slice none 0 0]).alloc (.cells #[.slice none 0 0, .slice none 0 0, .slice none 0 0] 39)
    rwa [World.size_alloc] at this
  · have := Blk.new 39 ((w.alloc (.cells #[.int .u8 (kd g), .int .i64 (nm g)] 23)).alloc (.cells #[.slice none 0 0, .slice none 0 0, .slice none 0 0] 39)) #[.slice none 0 0, .slice none 0 0, .slice none 0 0]
    rwa [World.size_alloc, World.size_alloc] at this

/-- The first word and the first point stand. -/
theorem ET.two {w W : World} {g : Nat} {v4 : Value} (h : ET w W g (fun _ => .slice none 0 0) (fun _ => 0) (fun _ => [])) (hg : g < 17) (hu : Bg (w.heap.size + 3) W v4 (pt g 0)) :
    ∃ xs, ET w ((((((W.alloc (.cells #[] 3)).alloc (.cells #[.slice (some ⟨W.heap.size, 0, none⟩) 0 0] 24)).alloc (.cells #[v4] 24)).setCell ⟨w.heap.size + 1 + 1, 0, none⟩ (.slice (some ⟨W.heap.size + 1, 0, none⟩) 1 1)).setCell ⟨w.heap.size + 1 + 1, 1, none⟩ (.slice (some ⟨W.heap.size + 1 + 1, 0, none⟩) 1 1))) g
      (fun c => if c = 0 then .slice (some ⟨W.heap.size + 1, 0, none⟩) 1 1 else if c = 1 then .slice (some ⟨W.heap.size + 1 + 1, 0, none⟩) 1 1 else .slice none 0 0) (fun c => if c = 0 then 1 else if c = 1 then 1 else 0) xs := by
  have hb := h.box.lt
  have hz : Bg (w.heap.size + 3) (W.alloc (.cells #[] 3)) (.slice (some ⟨W.heap.size, 0, none⟩) 0 0) (wd g 0) := by
    rw [(tg hg).2.2.2.2.2.2.2.1]
    exact World.ownsRow_made W #[] 0 (by omega) (Nat.zero_le _) rfl
  have h1 : (W.alloc (.cells #[] 3)).heap.size = W.heap.size + 1 := World.size_alloc _ _
  have h2 : ((W.alloc (.cells #[] 3)).alloc (.cells #[.slice (some ⟨W.heap.size, 0, none⟩) 0 0] 24)).heap.size = W.heap.size + 1 + 1 := by rw [World.size_alloc, h1]
  have w0 := World.ownsRow_lit (e := 24) (size := 1) (base := w.heap.size + 3) (W.alloc (.cells #[] 3)) #[.slice (some ⟨W.heap.size, 0, none⟩) 0 0] 1 (by rw [h1]; omega) (by unfold maxLen; omega) rfl
  have w1 := World.ownsRow_lit (e := 24) (size := 1) (base := w.heap.size + 3) ((W.alloc (.cells #[] 3)).alloc (.cells #[.slice (some ⟨W.heap.size, 0, none⟩) 0 0] 24)) #[v4] 1 (by rw [h2]; omega) (by unfold maxLen; omega) rfl
  rw [h1] at w0
  rw [h2] at w1
  have hrefl : ∀ V : World, V.grownBy V none := fun V => grown_of_below (Below.refl _ _)
  have e0 := (((h.alloc (.cells #[] 3)).alloc (.cells #[.slice (some ⟨W.heap.size, 0, none⟩) 0 0] 24)).alloc (.cells #[v4] 24))
  have p0 := e0.push (c := 0) (by decide) (u := .slice (some ⟨W.heap.size, 0, none⟩) 0 0) (v' := .slice (some ⟨W.heap.size + 1, 0, none⟩) 1 1) (((hz.alloc _).alloc _)) (hrefl _) (w0.alloc _) (.inr fun b _ c' _ _ e => by simp [Value.ownBlock] at e)
  have gc := grown_cell (((W.alloc (.cells #[] 3)).alloc (.cells #[.slice (some ⟨W.heap.size, 0, none⟩) 0 0] 24)).alloc (.cells #[v4] 24)) ⟨w.heap.size + 1 + 1, 0, none⟩ (.slice (some ⟨W.heap.size + 1, 0, none⟩) 1 1)
  have p1 := p0.push (c := 1) (by decide) (u := v4) (v' := .slice (some ⟨W.heap.size + 1 + 1, 0, none⟩) 1 1) (World.ownsRow.kept (((hu.alloc _).alloc _).alloc _) gc (own_lt hu (by show w.heap.size + 1 + 1 < _; omega))) (hrefl _)
    (World.ownsRow.kept w1 gc (own_lt w1 (by show w.heap.size + 1 + 1 < _; omega))) (.inr fun b eb c' hc' hne e => by
      simp only [Value.ownBlock, Option.some.injEq] at eb
      rcases (show c' = 0 ∨ c' = 2 by omega) with rfl | rfl
      · have e : some (W.heap.size + 1) = some b := e
        simp only [Option.some.injEq] at e
        omega
      · cases (show (none : Option Nat) = some b from e))
  have f1 : ∀ {α : Type} (a b z : α), upd (upd (fun _ => z) 0 a) 1 b = fun c => if c = 0 then a else if c = 1 then b else z := by
    intro α a b z
    funext c
    simp only [upd]
    by_cases h0 : c = 0
    · subst h0; simp
    · simp [h0]
  rw [f1, f1] at p1
  exact ⟨_, p1⟩
end Go.Proofs.Ytlnbodpdgebflaa
