/- newTable: what its loops keep -/
import Derived.Test.YtlnbodpdgebflaaNu
namespace Go.Proofs.Ytlnbodpdgebflaa
open Go.RowKit

theorem run_build24 (f : Nat → Nat) (W : World) : (Instr.buildSlice 115 1 #[(0, .agg (byt f))]).run Try.prog W = .ok (.slice (some ⟨W.heap.size, 0, none⟩) 1 1) (W.alloc (.cells (byt f) 117)) := by kernel_rfl
theorem wpl_build24 {ops : Array Oper} {rest : List Oper} {o : Oper} {a : Act} {w : World} {Q : Exit → Act → World → Prop} (hg : o.guard = none) (x : Operand) (ho : o.op = .buildSlice 115 1 #[(0, x)]) (f : Nat → Nat) (hx : a.eval x = .agg (byt f))
    (h : wpList Try.prog ops Q rest (a.put o.dst (.slice (some ⟨w.heap.size, 0, none⟩) 1 1)) (w.alloc (.cells (byt f) 117))) : wpList Try.prog ops Q (o :: rest) a w :=
  wpList_plain hg fun _ hK => by
    unfold Oper.wp execOp
    simp only [ho, Sem.run_bind, List.map_toArray, List.map_cons, List.map_nil, hx, run_build24, Result.andThen_ok]
    exact hK _ _ h

/-- While the steps are made. -/
structure Fst (w W : World) (g S k : Nat) : Prop where
  st : Sts W g S k
  g : Blk 28 W w.heap.size #[.int .u8 (kd g), .int .i64 (nm g)]
  b : Below w.heap.size w W
  lt : w.heap.size < S ∧ S < W.heap.size
theorem Fst.below {w W W' : World} {g S k : Nat} (h : Fst w W g S k) (hb : Below W.heap.size W W') : Fst w W' g S k :=
  ⟨h.st.kept (hb.block S h.lt.2), h.g.below hb, h.b.trans (hb.mono (by have := h.lt; omega)), ⟨h.lt.1, Nat.lt_of_lt_of_le h.lt.2 hb.size⟩⟩
theorem Fst.step {w W : World} {g S k : Nat} (h : Fst w W g S k) (hk : k < kM g) : Fst w (W.setCells S (k * 24) (byt (tn g (rt g 0 k))).toList) g S (k + 1) := by
  have hsz : ∀ (vs : List Value) (o : Nat) (W : World), (W.setCells S o vs).heap.size = W.heap.size := by
    intro vs
    induction vs with
    | nil => intro o W; rfl
    | cons v vs ih => intro o W; show ((W.setCell ⟨S, o, none⟩ v).setCells S (o + 1) vs).heap.size = _; rw [ih, World.size_setCell]
  have hbl : ∀ (vs : List Value) (o : Nat) (W : World), Below w.heap.size w W → Below w.heap.size w (W.setCells S o vs) := by
    intro vs
    induction vs with
    | nil => intro o W h; exact h
    | cons v vs ih => intro o W hh; exact ih (o + 1) _ (below_cell hh (by show w.heap.size ≤ S; have := h.lt; omega) v)
  exact ⟨h.st.step hk, (setCells_heap S _ _ W _ (by have := h.lt; omega)).trans h.g, hbl _ _ _ h.b, ⟨h.lt.1, by rw [hsz]; exact h.lt.2⟩⟩
theorem Fst.start {w w1 : World} {g n : Nat} (hb : Below (w.heap.size + 1) (w.alloc (.cells #[.int .u8 (kd g), .int .i64 (nm g)] 28)) w1) (hz : kM g = n) : Fst w (w1.alloc (.cells (zer n) 117)) g w1.heap.size 0 := by
  have hs := hb.size
  simp only [World.size_alloc] at hs
  have g1 : Blk 28 w1 w.heap.size #[.int .u8 (kd g), .int .i64 (nm g)] := (hb.block _ (by omega)).trans (Blk.new _ _ _)
  exact ⟨Sts.start w1 g n hz, g1.alloc _, (((Below.refl _ _).alloc (Nat.le_refl _) _).trans (hb.mono (by omega))).alloc (by omega) _, ⟨by omega, by simp⟩⟩


/-- The row under way: the first s products of element x. -/
def rowC (g x s kn : Nat) : Array Value := ((List.range kn).map fun j => Value.int .i64 ((if j < s then rt g x j else 0 : Nat) : Int)).toArray
theorem rowC_set (g x s kn : Nat) (hs : s < kn) : (rowC g x s kn).setIfInBounds s (.int .i64 (rt g x s : Nat)) = rowC g x (s + 1) kn := by
  apply Array.ext_getElem?
  intro i
  rw [Array.getElem?_setIfInBounds]
  unfold rowC
  by_cases hi : i < kn
  · by_cases e : s = i
    · subst e; simp [hs]
    · rw [if_neg e]
      simp only [List.getElem?_toArray, List.getElem?_map, List.getElem?_range hi, Option.map_some, Option.some.injEq, Value.int.injEq, true_and]
      by_cases h : i < s
      · rw [if_pos h, if_pos (by omega)]
      · rw [if_neg h, if_neg (by omega)]
  · simp [hi]; omega
theorem rowC_get (g x s kn j : Nat) (hj : j < kn) : (rowC g x s kn)[j]? = some (.int .i64 ((if j < s then rt g x j else 0 : Nat) : Int)) := by simp [rowC, hj]
theorem rowC_end (g x kn : Nat) (h : kM g = kn) : (rowC g x kn kn).toList = ints (nats (rw_ g x)) := by
  unfold rowC rw_ ints nats
  rw [h]
  simp only [List.map_map]
  refine List.map_congr_left fun j hj => ?_
  rw [if_pos (List.mem_range.1 hj)]; rfl
theorem mk_cells (c : Nat) : (madeCells (Value.int .i64 0).cells (c * 1)) = (ints (List.replicate c 0)).toArray := by
  have := toList_madeCells_one (Value.int .i64 0) c
  simp only [Value.cells, Nat.mul_one]
  rw [← Array.toArray_toList (xs := madeCells #[Value.int .i64 0] c), this]
  simp [ints]
theorem rowC_zero (g x n : Nat) : rowC g x 0 n = (ints (List.replicate n 0)).toArray := by
  unfold rowC ints
  congr 1
  rw [List.map_replicate]
  exact List.eq_replicate_iff.2 ⟨by simp, fun b hb => by
    obtain ⟨j, _, rfl⟩ := List.mem_map.1 hb
    rw [if_neg (by omega)]; rfl⟩
theorem run_make24 (n : Nat) (hn : n ≤ 1000) (g x : Nat) (W : World) : (Instr.makeSlice 24 (.int .i64 n) (.int .i64 n)).run Try.prog W = .ok (.slice (some ⟨W.heap.size, 0, none⟩) n n) (W.alloc (.cells (rowC g x 0 n) 3)) := by
  obtain ⟨i3, hi3, hz0, hz1, hz2⟩ := info_parts Try.info3
  have h := run_make (P := Try.prog) W 24 3 i3 (.int .i64 0) Try.underlying24 hi3 hz0 .i64 .i64 (n : Int) (n : Int) (by omega) (by omega) (by rw [hz2]; omega) (by omega)
  rw [h, hz1]
  simp only [Int.toNat_natCast]
  rw [mk_cells, rowC_zero]

structure Inn (w W : World) (g S M T0 nm nt nw x s kn Rb : Nat) (vt vw vr : Value) (ws rs : List Value) : Prop where
  nt : NT w W g S M T0 nm nt nw x vt vw vr ws rs
  row : Blk 3 W Rb (rowC g x s kn)
  wne : ∀ i, i < nw → (ws.getD i undef).ownBlock = none ∨ (ws.getD i undef).ownBlock ≠ some Rb
  rne : ∀ i, i < x → (rs.getD i undef).ownBlock = none ∨ (rs.getD i undef).ownBlock ≠ some Rb
  lt : S < Rb ∧ M < Rb ∧ T0 < Rb ∧ Rb < W.heap.size
theorem Inn.start {w W : World} {g S M T0 n x kn : Nat} {vt vw vr : Value} {ws rs : List Value} (h : NT w W g S M T0 n n n x vt vw vr ws rs) : Inn w (W.alloc (.cells (rowC g x 0 kn) 3)) g S M T0 n n n x 0 kn W.heap.size vt vw vr ws rs := by
  obtain ⟨es, c, hb⟩ := h.mapBlk
  refine ⟨h.alloc _, Blk.new _ _ _, fun i hi => ?_, fun i hi => ?_, ⟨h.lt.2.2.2.2, (Array.getElem?_eq_some_iff.1 hb).1, h.box.lt, by simp⟩⟩
  · rcases hq : (ws.getD i undef).ownBlock with _ | b
    · exact .inl rfl
    · exact .inr fun e => by cases e; have := ((h.wr i hi).lt _ hq).2; omega
  · rcases hq : (rs.getD i undef).ownBlock with _ | b
    · exact .inl rfl
    · exact .inr fun e => by cases e; have := ((h.rr i hi).lt _ hq).2; omega
section
variable {w W W' : World} {g S M T0 nm nt nw x s kn Rb : Nat} {vt vw vr : Value} {ws rs : List Value}
theorem Inn.below (h : Inn w W g S M T0 nm nt nw x s kn Rb vt vw vr ws rs) (hb : Below W.heap.size W W') : Inn w W' g S M T0 nm nt nw x s kn Rb vt vw vr ws rs :=
  ⟨h.nt.below hb, h.row.below hb, h.wne, h.rne, ⟨h.lt.1, h.lt.2.1, h.lt.2.2.1, Nat.lt_of_lt_of_le h.lt.2.2.2 hb.size⟩⟩
theorem Inn.alloc (h : Inn w W g S M T0 nm nt nw x s kn Rb vt vw vr ws rs) (o : Obj) : Inn w (W.alloc o) g S M T0 nm nt nw x s kn Rb vt vw vr ws rs := h.below ((Below.refl _ _).alloc (Nat.le_refl _) o)
/-- A number goes into the row. -/
theorem Inn.set (h : Inn w W g S M T0 nm nt nw x s kn Rb vt vw vr ws rs) (hs : s < kn) {r : Nat} (hr : r = rt g x s) : Inn w (W.setCell ⟨Rb, s, none⟩ (.int .i64 (r : Nat))) g S M T0 nm nt nw x (s + 1) kn Rb vt vw vr ws rs := by
  subst hr
  have hr := h.row
  have g2 := grown_cell W ⟨Rb, s, none⟩ (.int .i64 (rt g x s : Nat))
  have lt := h.lt
  have lt2 := h.nt.lt
  refine ⟨h.nt.keep g2 (fun k e => by cases e; show w.heap.size ≤ Rb; omega) (by simp; omega) (by simp; omega) (by simp; omega) (own_type h.nt.t hr (by simp)) (own_type h.nt.ow hr (by simp)) (own_type h.nt.or hr (by simp)) h.wne h.rne, ?_, h.wne, h.rne, ⟨lt.1, lt.2.1, lt.2.2.1, by rw [World.size_setCell]; exact lt.2.2.2⟩⟩
  have := hr.set s (.int .i64 (rt g x s : Nat))
  rwa [rowC_set _ _ _ _ hs] at this
theorem Inn.put (h : Inn w W g S M T0 nm nt nw x s kn Rb vt vw vr ws rs) (hg : W.grownBy W' (some M)) (hm : ∃ D : DataW Unit, MapOk g (nm + 1) D ∧ W'.ownsMap Try.prog 117 (plainElem Try.prog 3) M (nm + 1) D) :
    Inn w W' g S M T0 (nm + 1) nt nw x s kn Rb vt vw vr ws rs :=
  ⟨h.nt.put hg hm, (hg.block Rb h.lt.2.2.2 (by have := h.lt; simp; omega)).trans h.row, h.wne, h.rne, ⟨h.lt.1, h.lt.2.1, h.lt.2.2.1, Nat.lt_of_lt_of_le h.lt.2.2.2 hg.size⟩⟩
theorem Inn.turn {vt' : Value} (h : Inn w W g S M T0 nm nt nw x s kn Rb vt vw vr ws rs) (hg : W.grownBy W' vt.ownBlock) (ht : W'.ownsRow (S + 1) 117 24 vt' (nt + 1) (flatT g (nt + 1))) :
    Inn w W' g S M T0 nm (nt + 1) nw x s kn Rb vt' vw vr ws rs :=
  ⟨h.nt.turn hg ht, (hg.block Rb h.lt.2.2.2 (own_blk h.nt.t h.row (by simp))).trans h.row, h.wne, h.rne, ⟨h.lt.1, h.lt.2.1, h.lt.2.2.1, Nat.lt_of_lt_of_le h.lt.2.2.2 hg.size⟩⟩
theorem Inn.word {vw' u : Value} (h : Inn w W g S M T0 nm nt nw x s kn Rb vt vw vr ws rs) (hu : Bg (S + 1) W u (wd g nw)) (hur : u.ownBlock = none ∨ u.ownBlock ≠ some Rb) (hg : W.grownBy W' vw.ownBlock) (hw : W'.ownsRow (S + 1) 24 1 vw' (nw + 1) (ws ++ [u]))
    (hloc : vw'.ownBlock = vw.ownBlock ∨ vw'.ownBlock = some W.heap.size) : Inn w (W'.setCell ⟨T0, 0, none⟩ vw') g S M T0 nm nt (nw + 1) x s kn Rb vt vw' vr (ws ++ [u]) rs := by
  have h1 : Blk 3 W' Rb (rowC g x s kn) := (hg.block Rb h.lt.2.2.2 (own_blk h.nt.ow h.row (by simp))).trans h.row
  refine ⟨h.nt.word hu hg hw hloc, h1.other (by have := h.lt; omega) 0 vw', fun i hi => ?_, h.rne, ⟨h.lt.1, h.lt.2.1, h.lt.2.2.1, by rw [World.size_setCell]; exact Nat.lt_of_lt_of_le h.lt.2.2.2 hg.size⟩⟩
  rw [getD_snoc, h.nt.wl]
  by_cases e : i = nw
  · rw [if_pos e]; exact hur
  · rw [if_neg e]; exact h.wne i (by omega)
end
/-- The row is done: it is owned as any other. -/
theorem Inn.own {w W : World} {g S M T0 n x kn Rb : Nat} {vt vw vr : Value} {ws rs : List Value} (h : Inn w W g S M T0 n n n x kn kn Rb vt vw vr ws rs) (hk : kM g = kn) (h4 : kn ≤ 4) : Bg (S + 1) W (.slice (some ⟨Rb, 0, none⟩) kn kn) (rw_ g x) := by
  have hl : (rw_ g x).length = kn := by simp [rw_, hk]
  unfold Bg
  rw [hl]
  refine ⟨by rw [ints_length, nats_length, hl, Nat.mul_one], .inr ⟨Rb, kn, rowC g x kn kn, rfl, by have := h.lt; omega, h.row, Nat.le_refl _, by unfold maxLen; omega, by simp [rowC], ?_⟩⟩
  rw [← rowC_end g x kn hk, List.take_of_length_le (by simp [rowC])]
/-- An owned slice that is not empty lies in a block. -/
theorem own_lit {W : World} {B e sz n : Nat} {v : Value} {xs : List Value} (h : W.ownsRow B e sz v n xs) (hn : 0 < n) : ∃ b c, v = .slice (some ⟨b, 0, none⟩) n c ∧ n ≤ c := by
  obtain ⟨_, h2⟩ := h
  rcases h2 with ⟨_, h2⟩ | ⟨b, c, cur, e1, _, _, hc, _⟩
  · omega
  · exact ⟨b, c, e1, hc⟩
theorem own_cell {W : World} {B e n b c : Nat} {xs : List Value} (h : W.ownsRow B e 1 (.slice (some ⟨b, 0, none⟩) n c) n xs) {i : Nat} (hi : i < n) : W.cell? ⟨b, i, none⟩ = some (xs.getD i undef) := by
  rw [World.ownsRow.cellAt h i (by omega)]
  have := h.1
  simp [show i < xs.length by omega]
theorem wp_append_own_at {P : Program} {w : World} {o : Oper} {a : Act} {K : Act → World → Prop} {Q : Exit → Act → World → Prop} (s x : Operand) (t : TypeId)
    (ho : o.op = .call { callee := .builtin .append, args := #[s, x], argTypes := #[t, t] })
    (base : Nat) (e : TypeId) (i : TypeInfo) (z : Value) (size bytes : Nat) (ht : P.underlying t = some (.slice e)) (hi : P.info? e = some i) (hz : i.zero = some z)
    (hsize : i.size = size) (hby : i.bytes = bytes) (hzs : z.cells.size = size) (hsz : 0 < size)
    (v : Value) (n : Nat) (xs : List Value) (hs : a.eval s = v) (hown : w.ownsRow base e size v n xs)
    (ad : Addr) (m c : Nat) (news : List Value) (hx : a.eval x = .slice (some ad) m c) (hl : news.length = m * size) (hnews : ∀ j u, news[j]? = some u → w.cell? (ad.add j) = some u) (h1 : ∀ u ∈ news, u.oneCell' = true)
    (h63 : n + m ≤ maxLen) (hbytes : (n + m) * bytes ≤ 140737488355328) (hbase : base ≤ w.heap.size)
    (h : ∀ v' w', w'.ownsRow base e size v' (n + m) (xs ++ news) → w.grownBy w' v.ownBlock → (v'.ownBlock = v.ownBlock ∨ v'.ownBlock = some w.heap.size) → K (a.put o.dst v') w') : o.wp P a w K Q := by
  obtain ⟨v', w', hr, h2, h3, h4, h5⟩ := run_append_own_at (P := P) w base t o.type e i z size bytes ht hi hz hsize hby hzs hsz v n xs hown ad m c news hl hnews h1 h63 hbytes hbase
  unfold Oper.wp execOp
  simp only [ho, resolve, invoke, builtin, Sem.run_bind, Sem.run_pure, Result.andThen_ok, List.map_toArray, List.map_cons, List.map_nil, hs, hx, hr]
  exact h v' w' h2 h3 h5
theorem NT.start {w W2 W3 : World} {g S : Nat} (hF : Fst w W2 g S (kM g)) (hg : g < 17)
    (hm : ∃ D : DataW Unit, MapOk g 1 D ∧ W3.ownsMap Try.prog 117 (plainElem Try.prog 3) (W2.heap.size + 1) 1 D) (hgr : ((W2.alloc (.cells (byt fun p => p) 117)).alloc (.map #[] 0)).grownBy W3 (some (W2.heap.size + 1))) :
    NT w ((W3.alloc (.cells #[.slice none 0 0] 24)).alloc (.cells #[.slice (some ⟨W3.heap.size, 0, none⟩) 1 1, .slice none 0 0] 82)) g S (W2.heap.size + 1) (W3.heap.size + 1) 1 1 1 0
      (.slice (some ⟨W2.heap.size, 0, none⟩) 1 1) (.slice (some ⟨W3.heap.size, 0, none⟩) 1 1) (.slice none 0 0) [.slice none 0 0] [] := by
  have hs3 := hgr.size
  rw [s2] at hs3
  have lt := hF.lt
  obtain ⟨D, hD, hm⟩ := hm
  have e1 : byt (fun p => p) = byt (tn g 0) := byt_congr fun p hp => ((tg hg).2.2.2.2.2.2.2.2 p hp).symm
  have t3 : W3.heap[W2.heap.size]? = some (.cells (byt (tn g 0)) 117 (0, 0)) := by
    rw [hgr.block W2.heap.size (by rw [s2]; omega) (by simp), ← e1]
    exact (Blk.new 117 W2 _).alloc _
  have s3 : Sts W3 g S (kM g) := hF.st.kept (by
    rw [hgr.block S (by rw [s2]; omega) (by simp; omega), Below.heap_alloc _ _ _ (by simp; omega), Below.heap_alloc _ _ _ (by omega)])
  have b3 : Below w.heap.size w W3 := ((hF.b.alloc (by omega) _).alloc (by simp; omega) _).grown hgr (by rw [s2]; omega) (fun k e => by cases e; omega)
  have hb : Below W3.heap.size W3 ((W3.alloc (.cells #[.slice none 0 0] 24)).alloc (.cells #[.slice (some ⟨W3.heap.size, 0, none⟩) 1 1, .slice none 0 0] 82)) := ((Below.refl _ _).alloc (Nat.le_refl _) _).alloc (by simp) _
  refine ⟨s3.kept (hb.block S (by omega)), ⟨D, hD, hm.kept (grown_of_below hb) (by simp)⟩, ⟨by rw [flatT_length], .inr ⟨W2.heap.size, 1, byt (tn g 0), rfl, by omega, (hb.block _ (by omega)).trans t3, Nat.le_refl _, by unfold maxLen; omega, by rw [byt_size], ?_⟩⟩, blk_at (by simp), ⟨rfl, .inr ⟨W3.heap.size, 1, #[.slice none 0 0], rfl, by omega, (Blk.new _ _ _).alloc _, Nat.le_refl _, by unfold maxLen; omega, rfl, rfl⟩⟩, World.ownsRow_nil _ _ _ _, fun i hi => ?_, fun i hi => absurd hi (by omega), (fun b _ e => by cases e), b3.trans (hb.mono (by omega)), ⟨by omega, by omega, by omega, by omega, by simp; omega⟩⟩
  · rw [List.take_of_length_le (by rw [Array.length_toList, byt_size]; omega)]
    simp [flatT]
  · obtain rfl : i = 0 := by omega
    show World.ownsRow _ _ _ _ (.slice none 0 0) _ _
    rw [(tg hg).2.2.2.2.2.2.2.1]
    exact World.ownsRow_nil _ _ _ _
end Go.Proofs.Ytlnbodpdgebflaa
