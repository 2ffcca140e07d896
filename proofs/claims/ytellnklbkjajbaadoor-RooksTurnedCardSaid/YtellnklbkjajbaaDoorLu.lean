/- RooksTurned: the walk -/
import Derived.Test.YtellnklbkjajbaaDoorTn
import Derived.Test.YtellnklbkjajbaaDoorCt
import Derived.Test.YtellnklbkjajbaaDoorHv2
import Derived.Deep.RegionHeld3
namespace Go.Proofs.YtellnklbkjajbaaDoor
open Go.RowKit

theorem equal_same (v v' : Value) (xs : List Int) (w : World) (h : Ints w v xs) (h' : Ints w v' xs) :
    Calls Tryd.prog 20 #[v, v'] w fun e w' => e = .returned (.bool true) ∧ Below w.heap.size w w' := by
  have := equal_any v v' xs xs w h h'
  rwa [show eqB xs xs = true from decide_eq_true rfl] at this
theorem nats_of_owns {w : World} {B n c : Nat} {ao : Option Addr} {bs : List Nat} (h : w.ownsRow B 3 1 (.slice ao n c) n (ints (nats bs))) (hb : Brd n bs) : Nats w (.slice ao n c) bs :=
  ⟨Sl.of_owns h (by have := hb.le; omega), nats_I64 fun x hx => by have := hb.lt x hx; have := pw6 n hb.le; omega⟩
/-- What the law asks of a board made from another one. -/
structure SameB (n : Nat) (k : Nat) (bs bs' : List Nat) : Prop where
  brd : Brd n bs'
  rooks : rookL bs' = rookL bs
  hits : hitsL bs' = hitsL bs
  err : htE bs' = htE bs
  heights : k < 2 → htV bs' = htV bs
theorem same_rows {n : Nat} {bs : List Nat} (hb : Brd n bs) {i j : Nat} (hi : i < n) (hj : j < n) : SameB n 0 bs (swapL bs i j) := by
  have hl := hb.len
  have hm := swapL_moved (bs := bs) (i := i) (j := j) (by omega) (by omega)
  have h2 := swapL_brd hb hi hj
  have ho := okB_rows (bs := bs) (i := i) (j := j) (by omega) (by omega)
  have hh := htL_rows (bs := bs) (i := i) (j := j) (by omega) (by omega)
  exact ⟨h2, hm.rooks hb h2, hm.hits hb h2, by unfold htE; rw [ho], fun _ => by unfold htV; rw [ho, hh]⟩
theorem same_cols {n : Nat} {bs : List Nat} (hb : Brd n bs) {i j : Nat} (hi : i < n) (hj : j < n) : SameB n 1 bs (colsL bs i j) := by
  have hm := colsL_moved bs i j
  have h2 := colsL_brd hb hi hj
  have ho := okB_cols bs i j
  have hh := htL_cols hb hi hj
  exact ⟨h2, hm.rooks hb h2, hm.hits hb h2, by unfold htE; rw [ho], fun _ => by unfold htV; rw [ho, hh]⟩
theorem same_over {n : Nat} {bs : List Nat} (hb : Brd n bs) : SameB n 2 bs (overL n bs) := by
  have hm := overL_moved hb
  have h2 := overL_brd hb
  exact ⟨h2, hm.rooks hb h2, hm.hits hb h2, by unfold htE; rw [okB_over hb], fun h => by omega⟩

/-- What the law's last loop asks of a board that stands in a slice. -/
structure AskB (n k : Nat) (rk ht hh : List Int) (he : Int) (bs' : List Nat) : Prop where
  brd : Brd n bs'
  rooks : rookL bs' = rk
  hits : hitsL bs' = ht
  err : htE bs' = he
  heights : k < 2 → htV bs' = hh
theorem SameB.ask {n k : Nat} {bs bs' : List Nat} (h : SameB n k bs bs') : AskB n k (rookL bs) (hitsL bs) (htV bs) (htE bs) bs' := ⟨h.brd, h.rooks, h.hits, h.err, h.heights⟩

set_option maxHeartbeats 4000000 in
set_option maxRecDepth 100000 in
theorem rooksTurned_bad (v : Value) (xs : List Int) (i j : Int) (w : World) (h : Ints w v xs) (hs : boardB xs = false) (hT : Tab w) :
    Calls Tryd.prog 13 #[v, .int .i64 i, .int .i64 j] w fun e w' => e = .returned (.bool true) ∧ Below w.heap.size w w' := by
  have HL := Lib.hid (fun w' (hb : Below w.heap.size w w') => list_any v xs w' (h.below hb (Nat.le_refl _)))
  have HAw := Lib.hid (fun w' (hb : Below w.heap.size w w') => awake_any w' (tab_block hT (hb.block 1 (tab_lt hT))))
  have HRk := Lib.hid (fun v' w' (h' : Ints w' v' (xs.take 9)) => Rooks_bad v' (xs.take 9) w' (by rw [boardB_take, hs]) h')
  clear hs h hT
  have HB0 := Lib.hid (Below.refl w.heap.size w)
  go_enter Tryd.func13, Tryd.ntmps13
  go_wp2_with fail
  refine (HL.out w HB0.out).mono ?_
  rintro e w1 ⟨v1, rfl, hv1, hb1⟩
  have HB1 := Lib.hid (HB0.out.trans (hb1.mono HB0.out.size))
  have A_1 := Lib.hid (hv1)
  clear hb1 hv1
  go_wp2_with fail
  refine (HRk.out v1 w1 A_1.out).mono ?_
  rintro e w' ⟨rfl, rfl⟩
  clear A_1
  go_wp2_with fail
  refine (HAw.out w1 HB1.out).mono ?_
  rintro e w2 ⟨rfl, hb2⟩
  have HB2 := Lib.hid (HB1.out.trans (hb2.mono HB1.out.size))
  clear hb2
  go_wp2
  go_ret
  exact ⟨rfl, HB2.out⟩


/-- A number modulo another one, as the law makes it. -/
theorem urem (i : Int) (n : Nat) (h1 : 1 ≤ n) (h6 : n ≤ 6) : ∃ a : Nat, a < n ∧ (IntKind.u64.wrap i).tmod (n : Int) = (a : Int) := by
  have h0 : 0 ≤ IntKind.u64.wrap i := by rw [IntKind.wrap_u64]; omega
  refine ⟨((IntKind.u64.wrap i).toNat % n), Nat.mod_lt _ (by omega), ?_⟩
  rw [Int.tmod_eq_emod_of_nonneg h0, Int.natCast_emod, Int.toNat_of_nonneg h0]

/-- Behind the making of the three boards. -/
structure LuCut (W : World) (n : Nat) (bs : List Nat) (g1 c1 g2 c2 g3 : Nat) (wx : World) : Prop where
  n12 : g1 ≠ g2
  n13 : g1 ≠ g3
  n23 : g2 ≠ g3
  o1 : wx.ownsRow W.heap.size 3 1 (.slice (some ⟨g1, 0, none⟩) n c1) n (ints (nats bs))
  o2 : wx.ownsRow W.heap.size 3 1 (.slice (some ⟨g2, 0, none⟩) n c2) n (ints (nats bs))
  o3 : NatBlk wx g3 (List.replicate n 0)
  l1 : W.heap.size ≤ g1
  l2 : W.heap.size ≤ g2
  l3 : W.heap.size ≤ g3
  bel : Below W.heap.size W wx
def LuC (W : World) (n : Nat) (bs : List Nat) (r q o : Value) (wx : World) : Prop :=
  ∃ g1 c1 g2 c2 g3, r = .slice (some ⟨g1, 0, none⟩) n c1 ∧ q = .slice (some ⟨g2, 0, none⟩) n c2 ∧ o = .slice (some ⟨g3, 0, none⟩) n n ∧ LuCut W n bs g1 c1 g2 c2 g3 wx

theorem clone_nats (v : Value) (B : List Nat) (n : Nat) (w : World) (hb : Brd n B) (h : Nats w v B) :
    Calls Tryd.prog 45 #[v] w fun e w' => ∃ v', e = .returned v' ∧ Nats w' v' B ∧ Below w.heap.size w w' :=
  (clone1_any v (nats B) w h).mono fun _ _ ⟨ao, c, he, ho, hb'⟩ => ⟨_, he, by
    rw [nats_length, hb.len] at ho ⊢
    exact nats_of_owns ho hb, hb'⟩
theorem blk_owns {w : World} {B g n c : Nat} {xs : List Int} (h : w.ownsRow B 3 1 (.slice (some ⟨g, 0, none⟩) n c) n (ints xs)) : B ≤ g ∧ g < w.heap.size := h.lt g rfl
theorem lucA {W Wq wa wb : World} {n : Nat} {bs : List Nat} {ga ca gb cb : Nat} (hq : Below W.heap.size W Wq) (hs : Wq.heap.size = W.heap.size)
    (h1 : wa.ownsRow Wq.heap.size 3 1 (.slice (some ⟨ga, 0, none⟩) n ca) n (ints (nats bs))) (b1 : Below Wq.heap.size Wq wa)
    (h2 : wb.ownsRow wa.heap.size 3 1 (.slice (some ⟨gb, 0, none⟩) n cb) n (ints (nats bs))) (b2 : Below wa.heap.size wa wb) :
    LuC W n bs (.slice (some ⟨ga, 0, none⟩) n ca) (.slice (some ⟨gb, 0, none⟩) n cb) (.slice (some ⟨wb.heap.size, 0, none⟩) n n) (wb.alloc (.cells (ints (List.replicate n 0)).toArray 3)) := by
  have e1 := blk_owns h1
  have e2 := blk_owns h2
  have s1 := b1.size
  have s2 := b2.size
  rw [hs] at h1 b1 e1 s1
  have hb := hq.trans (b1.trans (b2.mono s1))
  refine ⟨ga, ca, gb, cb, _, rfl, rfl, rfl, ⟨by omega, by omega, by omega, (owns_below h1 b2 (Nat.le_refl _)).alloc _, (owns_mono h2 s1).alloc _, ?_, by omega, by omega, by omega, hb.alloc hb.size _⟩⟩
  have := NatBlk.start wb (List.replicate n 0)
  rwa [show Go.Proofs.YtellnklbkjajbaaDoor.nats (List.replicate n 0) = List.replicate n 0 by simp [Go.Proofs.YtellnklbkjajbaaDoor.nats]] at this
theorem lucB {W Wq wa wb : World} {n : Nat} {bs : List Nat} {ga ca gb cb : Nat} (hq : Below W.heap.size W Wq) (hs : Wq.heap.size = W.heap.size)
    (h1 : wa.ownsRow Wq.heap.size 3 1 (.slice (some ⟨ga, 0, none⟩) n ca) n (ints (nats bs))) (b1 : Below Wq.heap.size Wq wa)
    (h2 : wb.ownsRow (wa.alloc (.cells (ints (List.replicate n 0)).toArray 3)).heap.size 3 1 (.slice (some ⟨gb, 0, none⟩) n cb) n (ints (nats bs))) (b2 : Below (wa.alloc (.cells (ints (List.replicate n 0)).toArray 3)).heap.size (wa.alloc (.cells (ints (List.replicate n 0)).toArray 3)) wb) :
    LuC W n bs (.slice (some ⟨ga, 0, none⟩) n ca) (.slice (some ⟨gb, 0, none⟩) n cb) (.slice (some ⟨wa.heap.size, 0, none⟩) n n) wb := by
  have e1 := blk_owns h1
  have e2 := blk_owns h2
  have s1 := b1.size
  have s2 := b2.size
  have sa : (wa.alloc (.cells (ints (List.replicate n 0)).toArray 3)).heap.size = wa.heap.size + 1 := World.size_alloc _ _
  have hk := NatBlk.start wa (List.replicate n 0)
  rw [show Go.Proofs.YtellnklbkjajbaaDoor.nats (List.replicate n 0) = List.replicate n 0 by simp [Go.Proofs.YtellnklbkjajbaaDoor.nats]] at hk
  rw [hs] at h1 b1 e1 s1
  have hb := hq.trans ((b1.alloc s1 _).trans (b2.mono (by omega)))
  exact ⟨ga, ca, gb, cb, _, rfl, rfl, rfl, ⟨by omega, by omega, by omega, owns_below (h1.alloc _) b2 (Nat.le_refl _), owns_mono h2 (by omega), hk.below b2, by omega, by omega, by omega, hb⟩⟩
theorem lucC {W Wq wa wb : World} {n : Nat} {bs : List Nat} {ga ca gb cb : Nat} (hq : Below W.heap.size W Wq) (hs : Wq.heap.size = W.heap.size)
    (h1 : wa.ownsRow (Wq.alloc (.cells (ints (List.replicate n 0)).toArray 3)).heap.size 3 1 (.slice (some ⟨ga, 0, none⟩) n ca) n (ints (nats bs))) (b1 : Below (Wq.alloc (.cells (ints (List.replicate n 0)).toArray 3)).heap.size (Wq.alloc (.cells (ints (List.replicate n 0)).toArray 3)).drew wa)
    (h2 : wb.ownsRow wa.heap.size 3 1 (.slice (some ⟨gb, 0, none⟩) n cb) n (ints (nats bs))) (b2 : Below wa.heap.size wa wb) :
    LuC W n bs (.slice (some ⟨ga, 0, none⟩) n ca) (.slice (some ⟨gb, 0, none⟩) n cb) (.slice (some ⟨W.heap.size, 0, none⟩) n n) wb := by
  have e1 := blk_owns h1
  have e2 := blk_owns h2
  have s1 := b1.size
  have s2 := b2.size
  have sa : (Wq.alloc (.cells (ints (List.replicate n 0)).toArray 3)).heap.size = Wq.heap.size + 1 := World.size_alloc _ _
  have sd : (Wq.alloc (.cells (ints (List.replicate n 0)).toArray 3)).drew.heap.size = Wq.heap.size + 1 := sa
  have hk : NatBlk (Wq.alloc (.cells (ints (List.replicate n 0)).toArray 3)).drew Wq.heap.size (List.replicate n 0) := by
    have := NatBlk.start Wq (List.replicate n 0)
    rwa [show Go.Proofs.YtellnklbkjajbaaDoor.nats (List.replicate n 0) = List.replicate n 0 by simp [Go.Proofs.YtellnklbkjajbaaDoor.nats]] at this
  have hb := (hq.alloc (by omega) (.cells (ints (List.replicate n 0)).toArray 3)).drew.trans ((b1.mono (by omega)).trans (b2.mono (by omega)))
  exact ⟨ga, ca, gb, cb, Wq.heap.size, rfl, rfl, by rw [hs], ⟨by omega, by omega, by omega, owns_below (owns_mono h1 (by omega)) b2 (Nat.le_refl _), owns_mono h2 (by omega), (hk.below b1).below b2, by omega, by omega, by omega, hb⟩⟩

/-- The three boards in their blocks. -/
structure TrC (W : World) (n g1 c1 g2 c2 g3 : Nat) (rows cols ov : List Nat) (wx : World) : Prop where
  n12 : g1 ≠ g2
  n13 : g1 ≠ g3
  n23 : g2 ≠ g3
  o1 : wx.ownsRow W.heap.size 3 1 (.slice (some ⟨g1, 0, none⟩) n c1) n (ints (nats rows))
  o2 : wx.ownsRow W.heap.size 3 1 (.slice (some ⟨g2, 0, none⟩) n c2) n (ints (nats cols))
  o3 : NatBlk wx g3 ov
  l1 : W.heap.size ≤ g1
  l2 : W.heap.size ≤ g2
  l3 : W.heap.size ≤ g3
  bel : Below W.heap.size W wx
theorem TrC.drewN {W : World} {n g1 c1 g2 c2 g3 : Nat} {rows cols ov : List Nat} {wx : World} (h : TrC W n g1 c1 g2 c2 g3 rows cols ov wx) (m : Nat) : TrC W n g1 c1 g2 c2 g3 rows cols ov (wx.drewN m) :=
  ⟨h.n12, h.n13, h.n23, h.o1, h.o2, h.o3, h.l1, h.l2, h.l3, below_drewN h.bel m⟩
theorem TrC.drew {W : World} {n g1 c1 g2 c2 g3 : Nat} {rows cols ov : List Nat} {wx : World} (h : TrC W n g1 c1 g2 c2 g3 rows cols ov wx) : TrC W n g1 c1 g2 c2 g3 rows cols ov wx.drew :=
  ⟨h.n12, h.n13, h.n23, h.o1, h.o2, h.o3, h.l1, h.l2, h.l3, h.bel.drew⟩
theorem owns_other {w : World} {B g n c : Nat} {xs : List Int} (h : w.ownsRow B 3 1 (.slice (some ⟨g, 0, none⟩) n c) n (ints xs)) {p : Addr} (hp : p.block ≠ g) (u : Value) :
    (w.setCell p u).ownsRow B 3 1 (.slice (some ⟨g, 0, none⟩) n c) n (ints xs) := by
  obtain ⟨h1, h2⟩ := h
  rcases h2 with ⟨h2, _⟩ | ⟨g', cap, cur, hv, hB, hh, r⟩
  · cases h2
  · simp only [Value.slice.injEq, Option.some.injEq, Addr.mk.injEq, and_true, true_and] at hv
    obtain ⟨rfl, rfl⟩ := hv
    exact ⟨h1, .inr ⟨g, c, cur, rfl, hB, by rw [Below.heap_setCell _ _ _ _ (fun e => hp e.symm)]; exact hh, r⟩⟩
theorem NatBlk.other {w : World} {g : Nat} {hs : List Nat} (h : NatBlk w g hs) {p : Addr} (hp : p.block ≠ g) (u : Value) : NatBlk (w.setCell p u) g hs := by
  unfold NatBlk
  rw [Below.heap_setCell _ _ _ _ (fun e => hp e.symm)]
  exact h
theorem swap_cut {W wc : World} {n : Nat} {bs : List Nat} {a c g1 c1 g2 c2 g3 : Nat} (h : LuCut W n bs g1 c1 g2 c2 g3 wc) :
    TrC W n g1 c1 g2 c2 g3 (swapL bs a c) bs (List.replicate n 0) ((wc.setCell ⟨g1, a, none⟩ (.int .i64 (bs.getD c 0 : Nat))).setCell ⟨g1, c, none⟩ (.int .i64 (bs.getD a 0 : Nat))).drew := by
  obtain ⟨a1, a2, a3, o1, o2, o3, l1, l2, l3, hb⟩ := h
  have k1 := owns_set (owns_set o1 (k := a) (bs.getD c 0 : Nat)) (k := c) (bs.getD a 0 : Nat)
  rw [← nats_set, ← nats_set] at k1
  exact TrC.drew ⟨a1, a2, a3, k1, owns_other (owns_other o2 (p := ⟨g1, a, none⟩) a1 _) (p := ⟨g1, c, none⟩) a1 _, (o3.other (p := ⟨g1, a, none⟩) a2 _).other (p := ⟨g1, c, none⟩) a2 _, l1, l2, l3,
    (hb.setCell (p := ⟨g1, a, none⟩) l1 _).setCell (p := ⟨g1, c, none⟩) l1 _⟩
theorem TrC.set2 {W : World} {n g1 c1 g2 c2 g3 : Nat} {rows cols ov : List Nat} {wx : World} (h : TrC W n g1 c1 g2 c2 g3 rows cols ov wx) (k x : Nat) :
    TrC W n g1 c1 g2 c2 g3 rows (cols.set k x) ov (wx.setCell ⟨g2, k, none⟩ (.int .i64 (x : Nat))) := by
  have k2 := owns_set h.o2 (k := k) (x : Nat)
  rw [← nats_set] at k2
  exact ⟨h.n12, h.n13, h.n23, owns_other h.o1 (p := ⟨g2, k, none⟩) (fun e => h.n12 e.symm) _, k2, h.o3.other (p := ⟨g2, k, none⟩) h.n23 _, h.l1, h.l2, h.l3, h.bel.setCell (p := ⟨g2, k, none⟩) h.l2 _⟩
theorem TrC.set3 {W : World} {n g1 c1 g2 c2 g3 : Nat} {rows cols ov : List Nat} {wx : World} (h : TrC W n g1 c1 g2 c2 g3 rows cols ov wx) (k x : Nat) :
    TrC W n g1 c1 g2 c2 g3 rows cols (ov.set k x) (wx.setCell ⟨g3, k, none⟩ (.int .i64 (x : Nat))) :=
  ⟨h.n12, h.n13, h.n23, owns_other h.o1 (p := ⟨g3, k, none⟩) (fun e => h.n13 e.symm) _, owns_other h.o2 (p := ⟨g3, k, none⟩) (fun e => h.n23 e.symm) _, h.o3.set k x, h.l1, h.l2, h.l3, h.bel.setCell (p := ⟨g3, k, none⟩) h.l3 _⟩
/-- The first k rows with columns exchanged. -/
def swPart (bs : List Nat) (a c k : Nat) : List Nat := (bs.take k).map (swC a c) ++ bs.drop k
theorem swPart_length (bs : List Nat) (a c k : Nat) : (swPart bs a c k).length = bs.length := by
  simp only [swPart, List.length_append, List.length_map, List.length_take, List.length_drop]; omega
theorem swPart_get (bs : List Nat) (a c k : Nat) (h : k < bs.length) : (swPart bs a c k).getD k 0 = bs.getD k 0 := by
  have hl : ((bs.take k).map (swC a c)).length = k := by simp; omega
  simp only [swPart, List.getD_eq_getElem?_getD]
  rw [List.getElem?_append_right (by omega), hl, Nat.sub_self, List.getElem?_drop]
  simp
theorem swPart_set (bs : List Nat) (a c k : Nat) (h : k < bs.length) : (swPart bs a c k).set k (swC a c (bs.getD k 0)) = swPart bs a c (k + 1) := by
  have hl : ((bs.take k).map (swC a c)).length = k := by simp; omega
  unfold swPart
  rw [List.set_append_right _ _ (by omega), hl, Nat.sub_self, List.drop_eq_getElem_cons h, List.set_cons_zero, List.take_succ_eq_append_getElem h, List.map_append, List.append_assoc]
  simp [h]
theorem swPart_end (bs : List Nat) (a c : Nat) : swPart bs a c bs.length = colsL bs a c := by simp [swPart, colsL]
theorem swPart_stay (bs : List Nat) (a c k : Nat) (h : k < bs.length) (hs : swC a c (bs.getD k 0) = bs.getD k 0) : swPart bs a c k = swPart bs a c (k + 1) := by
  rw [← swPart_set bs a c k h, hs, ← swPart_get bs a c k h]
  have hl : k < (swPart bs a c k).length := by rw [swPart_length]; exact h
  simp [hl]
/-- The columns as rows, with row k put in up to column c. -/
def ovL (n : Nat) (bs : List Nat) (k c : Nat) : List Nat := (List.range n).map fun x => ovK bs x (if x < c then k + 1 else k)
theorem ovL_length (n : Nat) (bs : List Nat) (k c : Nat) : (ovL n bs k c).length = n := by simp [ovL]
theorem ovL_get {n : Nat} (bs : List Nat) (k c : Nat) (h : c < n) : (ovL n bs k c).getD c 0 = ovK bs c k := by simp [ovL, h]
theorem ovL_set {n : Nat} (bs : List Nat) (k c : Nat) : (ovL n bs k c).set c (ovK bs c (k + 1)) = ovL n bs k (c + 1) := by
  refine List.ext_getElem (by simp [ovL]) fun x h1 h2 => ?_
  simp only [List.length_set, ovL_length] at h1
  by_cases e : c = x
  · subst e
    rw [List.getElem_set_self]
    simp [ovL]
  · rw [List.getElem_set_ne e]
    simp only [ovL, List.getElem_map, List.getElem_range]
    congr 1
    by_cases e2 : x < c
    · rw [if_pos e2, if_pos (by omega)]
    · rw [if_neg e2, if_neg (by omega)]
theorem ovL_next (n : Nat) (bs : List Nat) (k : Nat) : ovL n bs k n = ovL n bs (k + 1) 0 := by
  unfold ovL
  refine List.map_congr_left fun x hx => ?_
  have := List.mem_range.1 hx
  simp [this]
theorem ovL_zero (n : Nat) (bs : List Nat) : List.replicate n 0 = ovL n bs 0 0 := by
  refine List.ext_getElem (by simp [ovL]) fun x h1 h2 => ?_
  simp [ovL, ovK]
theorem ovL_end (n : Nat) (bs : List Nat) : ovL n bs n 0 = overL n bs := by unfold ovL overL; simp

set_option maxHeartbeats 8000000 in
set_option maxRecDepth 100000 in
theorem rooksTurned_good (v : Value) (bs : List Nat) (n : Nat) (i j : Int) (w : World) (h : Nats w v bs) (hb : Brd n bs) (hT : Tab w) :
    Calls Tryd.prog 13 #[v, .int .i64 i, .int .i64 j] w fun e w' => e = .returned (.bool true) ∧ Below w.heap.size w w' := by
  have HL := Lib.hid (fun w' (hb : Below w.heap.size w w') => list_any v (nats bs) w' (h.below hb (Nat.le_refl _)))
  have HTab := Lib.hid (fun w' (hb : Below w.heap.size w w') => tab_block hT (hb.block 1 (tab_lt hT)))
  have HAw := Lib.hid (fun w' (hb : Below w.heap.size w w') => awake_any w' (HTab.out w' hb))
  have hlen := hb.len
  have hn6 := hb.le
  have hn1 := hb.pos
  rw [brd_take hb] at HL
  have HLo := Lib.hid (fun w' (hb' : Below w.heap.size w w') => list_own v (nats bs) w' (h.below hb' (Nat.le_refl _)) (by rw [nats_length]; omega) (by rw [nats_length]; omega))
  rw [nats_length, hlen] at HLo
  have HRk := Lib.hid (fun v' w' (h' : Nats w' v' bs) (hT' : Tab w') => Rooks_val v' bs n w' hb h' hT')
  have HHt := Lib.hid (fun v' w' (h' : Nats w' v' bs) (hT' : Tab w') => Hits_val v' bs n w' hb h' hT')
  have HHe := Lib.hid (fun v' w' (h' : Nats w' v' bs) => Heights_val v' bs n w' hb h')
  have HM := Lib.hid (fun w' (hb' : Below w.heap.size w w') => Board_any v (nats bs) w' (h.below hb' (Nat.le_refl _)))
  rw [boardB_mk hb] at HM
  have HEq := Lib.hid equal_same
  have HBr := Lib.hid hb
  have HE04 : Hid (htE bs = 0 ∨ htE bs = 4) := Lib.hid (by unfold htE; split <;> simp)
  have HSr := Lib.hid (fun a c (ha : a < n) (hc : c < n) => (same_rows hb ha hc).ask)
  have HSc := Lib.hid (fun a c (ha : a < n) (hc : c < n) => (same_cols hb ha hc).ask)
  have HSo := Lib.hid (same_over hb).ask
  generalize rookL bs = rk at *
  generalize hitsL bs = ht at *
  generalize htV bs = hh at *
  generalize htE bs = he at *
  obtain ⟨ao, cap, rfl, hcap, _, hx⟩ := Nats.open h
  rw [hlen] at HL HLo HM hcap hx ⊢
  have HX := Lib.hid hx
  obtain ⟨a, ha, hua⟩ := urem i n hn1 hn6
  obtain ⟨c, hc, huc⟩ := urem j n hn1 hn6
  have hun : IntKind.u64.wrap (n : Int) = n := by rw [IntKind.wrap_u64]; omega
  have hnz : ((n:Int) == 0) = false := by simp; omega
  have hnz2 : ¬ (n:Int) = 0 := by omega
  have hnz3 : ¬ n = 0 := by omega
  have hwa : IntKind.i64.wrap (a : Int) = a := IntWalk.i64_in _ (by omega)
  have hwc : IntKind.i64.wrap (c : Int) = c := IntWalk.i64_in _ (by omega)
  have HLn := Lib.hid hlen
  clear h hb hT hx hlen
  have HB0 := Lib.hid (Below.refl w.heap.size w)
  go_enter Tryd.func13, Tryd.ntmps13
  go_wp2_with fail
  refine (HL.out w HB0.out).mono ?_
  rintro e w1 ⟨v1, rfl, hv1, hb1⟩
  have HB1 := Lib.hid (HB0.out.trans (hb1.mono HB0.out.size))
  have A_1 := Lib.hid (hv1)
  clear hb1 hv1
  go_wp2_with fail
  refine (HRk.out v1 w1 A_1.out (HTab.out w1 HB1.out)).mono ?_
  rintro e w2 ⟨v2, rfl, hv2, hb2⟩
  have HB2 := Lib.hid (HB1.out.trans (hb2.mono HB1.out.size))
  have A_2 := Lib.hid (A_1.out.below hb2 (Nat.le_refl _))
  have X_2 := Lib.hid (hv2)
  clear hb2 hv2
  clear A_2
  go_wp2_with fail
  refine (HM.out w2 HB2.out).mono ?_
  rintro e w' ⟨rfl, rfl⟩
  go_wp2_with fail
  refine (HL.out w2 HB2.out).mono ?_
  rintro e w3 ⟨v3, rfl, hv3, hb3⟩
  have HB3 := Lib.hid (HB2.out.trans (hb3.mono HB2.out.size))
  have X_3 := Lib.hid (X_2.out.below hb3 (Nat.le_refl _))
  have A_3 := Lib.hid (hv3)
  clear hb3 hv3
  go_wp2_with fail
  refine (HHt.out v3 w3 A_3.out (HTab.out w3 HB3.out)).mono ?_
  rintro e w4 ⟨v4, rfl, hv4, hb4⟩
  have HB4 := Lib.hid (HB3.out.trans (hb4.mono HB3.out.size))
  have X_4 := Lib.hid (X_3.out.below hb4 (Nat.le_refl _))
  have A_4 := Lib.hid (A_3.out.below hb4 (Nat.le_refl _))
  have Y_4 := Lib.hid (hv4)
  clear hb4 hv4
  clear A_4
  go_wp2_with fail
  refine (HL.out w4 HB4.out).mono ?_
  rintro e w5 ⟨v5, rfl, hv5, hb5⟩
  have HB5 := Lib.hid (HB4.out.trans (hb5.mono HB4.out.size))
  have X_5 := Lib.hid (X_4.out.below hb5 (Nat.le_refl _))
  have Y_5 := Lib.hid (Y_4.out.below hb5 (Nat.le_refl _))
  have A_5 := Lib.hid (hv5)
  clear hb5 hv5
  go_wp2_with fail
  refine (HHe.out v5 w5 A_5.out).mono ?_
  rintro e w6 ⟨v6, rfl, hv6, hb6⟩
  have HB6 := Lib.hid (HB5.out.trans (hb6.mono HB5.out.size))
  have X_6 := Lib.hid (X_5.out.below hb6 (Nat.le_refl _))
  have Y_6 := Lib.hid (Y_5.out.below hb6 (Nat.le_refl _))
  have A_6 := Lib.hid (A_5.out.below hb6 (Nat.le_refl _))
  have Z_6 := Lib.hid (hv6)
  clear hb6 hv6
  clear A_6
  obtain ⟨W, hWW⟩ : ∃ W, W = w6 := ⟨_, rfl⟩
  rw [← hWW] at HB6 X_6 Y_6 Z_6 ⊢
  clear hWW
  have hmk := fun W => run_make22 n n (Nat.le_refl n) (by omega) W
  go_wp2_with fail
  go_quiet (fail)
  have HBq := Lib.hid (below_drewN HB6.out nq)
  have HBW : Hid (Below W.heap.size W (W.drewN nq)) := Lib.hid (below_drewN (Below.refl _ W) nq)
  have hsW : (W.drewN nq).heap.size = W.heap.size := rfl
  generalize W.drewN nq = Wq at *
  go_wp2_with fail
  go_cut [14, 15, 16] (fun r q o wx => LuC W n bs r q o wx)
  case first =>
    go_region_with ((go_at_call 16; refine (HLo.out _ (by first | exact HBq.out | exact HBq.out.drew | exact HBq.out.drew.trans (hbx.mono HBq.out.size) | exact HBq.out.drew.alloc HBq.out.size _ | exact (HBq.out.drew.trans (hbx.mono HBq.out.size)).alloc (HBq.out.drew.trans (hbx.mono HBq.out.size)).size _ | exact (HBq.out.drew.alloc HBq.out.size _).trans (hbx.mono (HBq.out.drew.alloc HBq.out.size _).size))).mono ?_; rintro e wx ⟨g, c', rfl, hg, hown, hbx⟩))
    all_goals
      go_wp2_with fail
      go_meet
      first
        | exact lucA (Wq := Wq.drew) HBW.out.drew hsW (by assumption) (by assumption) hown hbx
        | exact lucB (Wq := Wq.drew) HBW.out.drew hsW (by assumption) (by assumption) hown hbx
        | exact lucC (Wq := Wq) HBW.out hsW (by assumption) (by assumption) hown hbx
  case rest =>
    obtain ⟨g1, c1, g2, c2, g3, rfl, rfl, rfl, hcu⟩ := hcut
    have HC0 := Lib.hid hcu
    obtain ⟨x1, f1⟩ := owns_cell hcu.o1 (k := a) (by rw [nats_length, HLn.out]; exact ha)
    obtain ⟨x2, f2⟩ := owns_cell hcu.o1 (k := c) (by rw [nats_length, HLn.out]; exact hc)
    rw [nats_getD] at x1 x2
    have HS := Lib.hid (swap_cut (a := a) (c := c) hcu)
    clear hcu
    generalize bs.getD a 0 = ra at *
    generalize bs.getD c 0 = rc at *
    go_wp2_with fail
    go_cut [] (fun wx => TrC W n g1 c1 g2 c2 g3 (swapL bs a c) bs (List.replicate n 0) wx)
    case first =>
      by_cases hac : c = a
      · subst hac
        obtain rfl : ra = rc := by
          have := x1.symm.trans x2
          simp at this
          omega
        go_region_with (fail)
        all_goals
          go_wp2_with fail
          go_meet
          exact HS.out
      · have hca : ¬ a = c := fun e => hac e.symm
        go_region_with (fail)
        all_goals
          go_wp2_with fail
          go_meet
          exact HS.out
    case rest =>
      have HT0 := Lib.hid hcut
      clear hcut HC0 HS f1 f2 x1 x2
      rw [ovL_zero n bs] at HT0
      have HT0' : Hid (TrC W n g1 c1 g2 c2 g3 (swapL bs a c) (swPart bs a c 0) (ovL n bs 0 0) wc) := Lib.hid HT0.out
      clear HT0
      have hpa := wrap_pw a (by omega)
      have hpc := wrap_pw c (by omega)
      have hpa2 : IntKind.i64.wrap ((2:Int) ^ a) = 2 ^ a := by have := pw_bd a (by omega); exact IntWalk.i64_in _ (by omega)
      have hpc2 : IntKind.i64.wrap ((2:Int) ^ c) = 2 ^ c := by have := pw_bd c (by omega); exact IntWalk.i64_in _ (by omega)
      have hor : bits .or .i64 ((2:Int) ^ a) ((2:Int) ^ c) = ((2 ^ a ||| 2 ^ c : Nat) : Int) := by
        rw [← pw_cast, ← pw_cast]
        have := pw_nat a (by omega)
        have := pw_nat c (by omega)
        exact i64_or _ _ (by omega) (by omega)
      have horl : 2 ^ a ||| 2 ^ c < 64 := Nat.or_lt_two_pow (n := 6) (Nat.pow_lt_pow_right (by decide) (by omega)) (Nat.pow_lt_pow_right (by decide) (by omega))
      go_wp2_with fail
      go_loopw [94] (fun x wr => ∃ k : Nat, k ≤ n ∧ x = .int .i64 k ∧ TrC W n g1 c1 g2 c2 g3 (swapL bs a c) (swPart bs a c k) (ovL n bs k 0) wr) (fun x _ => n - (intOf x).toNat)
      case atStart => exact ⟨0, Nat.zero_le _, rfl, HT0'.out⟩
      case round =>
        obtain ⟨k, hk, rfl, ht⟩ := hrel
        have HTk := Lib.hid ht
        clear ht
        by_cases hkn : k < n
        · obtain ⟨b0, o0, rfl, hca⟩ := HX.out k hkn
          have hcw := ck (ck hca HB6.out) HTk.out.bel
          have hr64 : bs.getD k 0 < 64 := Nat.lt_of_lt_of_le (HBr.out.get k) (pw6 n hn6).2
          have HPs := Lib.hid (swPart_set bs a c k (by rw [HLn.out]; exact hkn))
          have HPt := Lib.hid (swPart_stay bs a c k (by rw [HLn.out]; exact hkn))
          have HPg := Lib.hid (swPart_get bs a c k (by rw [HLn.out]; exact hkn))
          have HPl := Lib.hid (swPart_length bs a c k)
          have HSw : Hid (swC a c (bs.getD k 0) = if (bs.getD k 0).testBit a = (bs.getD k 0).testBit c then bs.getD k 0 else bs.getD k 0 ^^^ (2 ^ a ||| 2 ^ c)) := Lib.hid rfl
          have HOs := Lib.hid (fun x => ovL_set (n := n) bs k x)
          have HOg := Lib.hid (fun x => ovL_get (n := n) bs k x)
          have HOl := Lib.hid (fun x => ovL_length n bs k x)
          have HOn := Lib.hid (ovL_next n bs k)
          have HOk : Hid (∀ x, ovK bs x (k + 1) = ovK bs x k ||| (if (bs.getD k 0).testBit x then 2 ^ k else 0)) := Lib.hid fun x => rfl
          have HO6 : Hid (∀ x, ovK bs x k < 64) := Lib.hid fun x => Nat.lt_of_lt_of_le (ovK_lt bs x k) (Nat.le_trans (Nat.pow_le_pow_right (by decide) (show k ≤ 6 by omega)) (by decide))
          have hba := bit_and1 (bs.getD k 0) a (by omega)
          have hbc := bit_and1 (bs.getD k 0) c (by omega)
          have HBx : Hid (∀ x, bits .and .i64 (((bs.getD k 0 : Nat) : Int) / 2 ^ x) 1 = (((bs.getD k 0).testBit x).toNat : Int)) := Lib.hid fun x => bit_and1 (bs.getD k 0) x (by omega)
          have hxr : bits .xor .i64 ((bs.getD k 0 : Nat) : Int) ((2 ^ a ||| 2 ^ c : Nat) : Int) = ((bs.getD k 0 ^^^ (2 ^ a ||| 2 ^ c) : Nat) : Int) := i64_xor _ _ (by omega) (by omega)
          generalize bs.getD k 0 = r at *
          obtain ⟨y2, fz2⟩ := owns_cell HTk.out.o2 (k := k) (by rw [nats_length, HPl.out, HLn.out]; exact hkn)
          rw [nats_getD, HPg.out] at y2
          clear hca
          have hba : bits .and .i64 ((r:Int) / 2 ^ a) 1 = ((r.testBit a).toNat : Int) := hba
          have hbc : bits .and .i64 ((r:Int) / 2 ^ c) 1 = ((r.testBit c).toNat : Int) := hbc
          generalize hta : r.testBit a = ta at *
          generalize htc : r.testBit c = tc at *
          have hbt : ((ta.toNat : Int) != (tc.toNat : Int)) = (ta != tc) := by cases ta <;> cases tc <;> rfl
          have hpk := wrap_pw k (by omega)
          have hw0 : IntKind.i64.wrap 0 = 0 := rfl
          have hpk2 : IntKind.i64.wrap ((2:Int) ^ k) = 2 ^ k := by have := pw_bd k (by omega); exact IntWalk.i64_in _ (by omega)
          by_cases he : ta = tc
          · have hbf : (ta != tc) = false := by simp [he]
            have HZ0 : Hid (TrC W n g1 c1 g2 c2 g3 (swapL bs a c) (swPart bs a c (k + 1)) (ovL n bs k 0) wr) := Lib.hid (by
              rw [if_pos he] at HSw
              have := HTk.out
              rwa [HPt.out HSw.out] at this)
            clear he HTk y2 fz2
            go_wp2_with fail
            go_quiet (fail)
            have HZ := Lib.hid (HZ0.out.drewN nq)
            clear HZ0 hba hbc hbt
            go_wp2_with fail
            go_loopw [120] (fun x wr => ∃ q : Nat, q ≤ n ∧ x = .int .i64 q ∧ TrC W n g1 c1 g2 c2 g3 (swapL bs a c) (swPart bs a c (k + 1)) (ovL n bs k q) wr) (fun x _ => n - (intOf x).toNat)
            case atStart => exact ⟨0, Nat.zero_le _, rfl, HZ.out⟩
            case round =>
              obtain ⟨q, hq, rfl, ht⟩ := hrel
              have HTq := Lib.hid ht
              clear ht
              by_cases hqn : q < n
              · have HOs := Lib.hid (HOs.out q)
                have HOg := Lib.hid (HOg.out q hqn)
                have HOk := Lib.hid (HOk.out q)
                have hx64 := HO6.out q
                obtain ⟨z3, fz3⟩ := HTq.out.o3.cell (k := q) (by rw [HOl.out]; exact hqn)
                rw [HOg.out] at z3
                rw [HOk.out] at HOs
                have hbq := HBx.out q
                generalize ovK bs q k = o at *
                cases htq : r.testBit q with
                | false =>
                  rw [htq] at hbq HOs
                  have hbq : bits .and .i64 ((r:Int) / 2 ^ q) 1 = 0 := hbq
                  have HT2 : Hid (TrC W n g1 c1 g2 c2 g3 (swapL bs a c) (swPart bs a c (k + 1)) (ovL n bs k (q + 1)) (wr.setCell ⟨g3, q, none⟩ (.int .i64 (o : Nat))).drew) := Lib.hid (by
                    have := (HTq.out.set3 q (o ||| 0)).drew
                    rw [show (o ||| (if (false = true) then 2 ^ k else 0)) = o ||| 0 from rfl] at HOs
                    rwa [HOs.out, Nat.or_zero] at this)
                  have hoz : bits .or .i64 (o:Int) 0 = (o:Int) := by
                    have := i64_or o 0 (by omega) (by omega)
                    rwa [Nat.or_zero] at this
                  clear htq HOs HTq
                  go_wp2_with fail
                  go_region_with (fail)
                  all_goals
                    go_wp2
                    go_roundw
                    case rel => exact ⟨q + 1, by omega, by go_num, HT2.out⟩
                    case measure => simp [intOf]; omega
                | true =>
                  rw [htq] at hbq HOs
                  have hbq : bits .and .i64 ((r:Int) / 2 ^ q) 1 = 1 := hbq
                  have HT2 : Hid (TrC W n g1 c1 g2 c2 g3 (swapL bs a c) (swPart bs a c (k + 1)) (ovL n bs k (q + 1)) (wr.setCell ⟨g3, q, none⟩ (.int .i64 (o ||| 2 ^ k : Nat))).drew) := Lib.hid (by
                    have := (HTq.out.set3 q (o ||| 2 ^ k)).drew
                    rw [show (o ||| (if (true = true) then 2 ^ k else 0)) = o ||| 2 ^ k from rfl] at HOs
                    rwa [HOs.out] at this)
                  have hoz : bits .or .i64 (o:Int) ((2:Int) ^ k) = ((o ||| 2 ^ k : Nat) : Int) := by
                    rw [← pw_cast]
                    have := pw_nat k (by omega)
                    exact i64_or _ _ (by omega) (by omega)
                  clear htq HOs HTq
                  go_wp2_with fail
                  go_region_with (fail)
                  all_goals
                    go_wp2
                    go_roundw
                    case rel => exact ⟨q + 1, by omega, by go_num, HT2.out⟩
                    case measure => simp [intOf]; omega
              · obtain rfl : q = n := by omega
                rw [HOn.out] at HTq
                go_wp2
                go_roundw
                case rel => exact ⟨k + 1, by omega, by go_num, HTq.out⟩
                case measure => simp [intOf]; omega
          · have hbf : (ta != tc) = true := by simp [he]
            have HZ0 : Hid (∀ m, TrC W n g1 c1 g2 c2 g3 (swapL bs a c) (swPart bs a c (k + 1)) (ovL n bs k 0) ((wr.drewN m).setCell ⟨g2, k, none⟩ (.int .i64 (r ^^^ (2 ^ a ||| 2 ^ c) : Nat))).drew) := Lib.hid fun m => (by
              rw [if_neg he] at HSw
              have := ((HTk.out.drewN m).set2 k (r ^^^ (2 ^ a ||| 2 ^ c))).drew
              rw [← HSw.out] at this ⊢
              rwa [HPs.out] at this)
            clear he HTk
            go_wp2_with fail
            go_quiet (fail)
            have HZ := Lib.hid (HZ0.out nq)
            clear HZ0 hba hbc hbt
            have HZd : Hid ((wr.drewN nq).cell? ⟨g2, k, none⟩ = some (.int .i64 r)) := Lib.hid y2
            have y3 := HZd.out
            have fz3 : (wr.drewN nq).frozen? ⟨g2, k, none⟩ = false := fz2
            clear HZd y2 fz2
            generalize wr.drewN nq = wd at *
            go_wp2_with fail
            go_cut [] (fun wx => TrC W n g1 c1 g2 c2 g3 (swapL bs a c) (swPart bs a c (k + 1)) (ovL n bs k 0) wx)
            case first =>
              go_region_with (fail)
              all_goals
                go_wp2_with fail
                go_meet
                exact HZ.out
            case rest =>
            have HZ := Lib.hid hcut
            clear hcut y3 fz3
            go_wp2_with fail
            go_loopw [120] (fun x wr => ∃ q : Nat, q ≤ n ∧ x = .int .i64 q ∧ TrC W n g1 c1 g2 c2 g3 (swapL bs a c) (swPart bs a c (k + 1)) (ovL n bs k q) wr) (fun x _ => n - (intOf x).toNat)
            case atStart => exact ⟨0, Nat.zero_le _, rfl, HZ.out⟩
            case round =>
              obtain ⟨q, hq, rfl, ht⟩ := hrel
              have HTq := Lib.hid ht
              clear ht
              by_cases hqn : q < n
              · have HOs := Lib.hid (HOs.out q)
                have HOg := Lib.hid (HOg.out q hqn)
                have HOk := Lib.hid (HOk.out q)
                have hx64 := HO6.out q
                obtain ⟨z3, fz3⟩ := HTq.out.o3.cell (k := q) (by rw [HOl.out]; exact hqn)
                rw [HOg.out] at z3
                rw [HOk.out] at HOs
                have hbq := HBx.out q
                generalize ovK bs q k = o at *
                cases htq : r.testBit q with
                | false =>
                  rw [htq] at hbq HOs
                  have hbq : bits .and .i64 ((r:Int) / 2 ^ q) 1 = 0 := hbq
                  have HT2 : Hid (TrC W n g1 c1 g2 c2 g3 (swapL bs a c) (swPart bs a c (k + 1)) (ovL n bs k (q + 1)) (wr.setCell ⟨g3, q, none⟩ (.int .i64 (o : Nat))).drew) := Lib.hid (by
                    have := (HTq.out.set3 q (o ||| 0)).drew
                    rw [show (o ||| (if (false = true) then 2 ^ k else 0)) = o ||| 0 from rfl] at HOs
                    rwa [HOs.out, Nat.or_zero] at this)
                  have hoz : bits .or .i64 (o:Int) 0 = (o:Int) := by
                    have := i64_or o 0 (by omega) (by omega)
                    rwa [Nat.or_zero] at this
                  clear htq HOs HTq
                  go_wp2_with fail
                  go_region_with (fail)
                  all_goals
                    go_wp2
                    go_roundw
                    case rel => exact ⟨q + 1, by omega, by go_num, HT2.out⟩
                    case measure => simp [intOf]; omega
                | true =>
                  rw [htq] at hbq HOs
                  have hbq : bits .and .i64 ((r:Int) / 2 ^ q) 1 = 1 := hbq
                  have HT2 : Hid (TrC W n g1 c1 g2 c2 g3 (swapL bs a c) (swPart bs a c (k + 1)) (ovL n bs k (q + 1)) (wr.setCell ⟨g3, q, none⟩ (.int .i64 (o ||| 2 ^ k : Nat))).drew) := Lib.hid (by
                    have := (HTq.out.set3 q (o ||| 2 ^ k)).drew
                    rw [show (o ||| (if (true = true) then 2 ^ k else 0)) = o ||| 2 ^ k from rfl] at HOs
                    rwa [HOs.out] at this)
                  have hoz : bits .or .i64 (o:Int) ((2:Int) ^ k) = ((o ||| 2 ^ k : Nat) : Int) := by
                    rw [← pw_cast]
                    have := pw_nat k (by omega)
                    exact i64_or _ _ (by omega) (by omega)
                  clear htq HOs HTq
                  go_wp2_with fail
                  go_region_with (fail)
                  all_goals
                    go_wp2
                    go_roundw
                    case rel => exact ⟨q + 1, by omega, by go_num, HT2.out⟩
                    case measure => simp [intOf]; omega
              · obtain rfl : q = n := by omega
                rw [HOn.out] at HTq
                go_wp2
                go_roundw
                case rel => exact ⟨k + 1, by omega, by go_num, HTq.out⟩
                case measure => simp [intOf]; omega
        · obtain rfl : k = n := by omega
          have hT4 := HTk.out
          rw [ovL_end, ← HLn.out] at hT4
          rw [swPart_end, HLn.out] at hT4
          have hm1 := HSr.out a c ha hc
          have hm2 := HSc.out a c ha hc
          have hN1 := nats_of_owns hT4.o1 hm1.brd
          have hN2 := nats_of_owns hT4.o2 hm2.brd
          have hN3 : Nats wr (.slice (some ⟨g3, 0, none⟩) k k) (overL k bs) := hT4.o3.mat HSo.out.brd
          have hal := (Below.refl wr.heap.size wr).alloc (Nat.le_refl _) (.cells #[.slice (some ⟨g1, 0, none⟩) k c1, .slice (some ⟨g2, 0, none⟩) k c2, .slice (some ⟨g3, 0, none⟩) k k] 22)
          have HB4 : Hid (∀ t : Nat, t < 3 → ∃ g cc B, (wr.alloc (.cells #[.slice (some ⟨g1, 0, none⟩) k c1, .slice (some ⟨g2, 0, none⟩) k c2, .slice (some ⟨g3, 0, none⟩) k k] 22)).cell? ⟨wr.heap.size, t, none⟩ = some (.slice (some ⟨g, 0, none⟩) k cc) ∧
              Nats (wr.alloc (.cells #[.slice (some ⟨g1, 0, none⟩) k c1, .slice (some ⟨g2, 0, none⟩) k c2, .slice (some ⟨g3, 0, none⟩) k k] 22)) (.slice (some ⟨g, 0, none⟩) k cc) B ∧ AskB k t rk ht hh he B) := Lib.hid fun t ht3 => by
            have hh4 : (wr.alloc (.cells #[.slice (some ⟨g1, 0, none⟩) k c1, .slice (some ⟨g2, 0, none⟩) k c2, .slice (some ⟨g3, 0, none⟩) k k] 22)).heap[wr.heap.size]? = some (.cells #[.slice (some ⟨g1, 0, none⟩) k c1, .slice (some ⟨g2, 0, none⟩) k c2, .slice (some ⟨g3, 0, none⟩) k k] 22 (0, 0)) := heap_alloc_new wr _
            match t, ht3 with
            | 0, _ => exact ⟨g1, c1, _, by simp only [World.cell?, hh4]; rfl, hN1.below hal (Nat.le_refl _), hm1⟩
            | 1, _ => exact ⟨g2, c2, _, by simp only [World.cell?, hh4]; rfl, hN2.below hal (Nat.le_refl _), hm2⟩
            | 2, _ => exact ⟨g3, k, _, by simp only [World.cell?, hh4]; rfl, hN3.below hal (Nat.le_refl _), HSo.out⟩
          have HBw4 := Lib.hid ((HB6.out.trans (hT4.bel.mono HB6.out.size)).trans (hal.mono (Nat.le_trans HB6.out.size hT4.bel.size)))
          have X_7 := Lib.hid ((X_6.out.below hT4.bel (Nat.le_refl _)).below hal (Nat.le_refl _))
          have Y_7 := Lib.hid ((Y_6.out.below hT4.bel (Nat.le_refl _)).below hal (Nat.le_refl _))
          have Z_7 := Lib.hid ((Z_6.out.below hT4.bel (Nat.le_refl _)).below hal (Nat.le_refl _))
          clear hT4 hN1 hN2 hN3 hal hm1 hm2 HTk X_6 Y_6 Z_6 HX HL HLo HRk HHt HHe HM HSr HSc HSo HBq HBW hor horl hpa hpc hpa2 hpc2 hmk
          go_wp2_with fail
          generalize wr.alloc (.cells #[.slice (some ⟨g1, 0, none⟩) k c1, .slice (some ⟨g2, 0, none⟩) k c2, .slice (some ⟨g3, 0, none⟩) k k] 22) = W4 at *
          go_loopw [142] (fun x wl => ∃ t : Nat, t ≤ 3 ∧ x = .int .i64 t ∧ Below W4.heap.size W4 wl) (fun x _ => 3 - (intOf x).toNat)
          case atStart => exact ⟨0, by omega, rfl, Below.refl _ _⟩
          case round =>
            rename World => w10
            obtain ⟨t, ht4, rfl, hb10⟩ := hrel
            have HB10 := Lib.hid hb10
            have HT4 := Lib.hid (fun w' (hb : Below W4.heap.size W4 w') => HTab.out w' (HBw4.out.trans (hb.mono HBw4.out.size)))
            by_cases ht3 : t < 3
            · obtain ⟨g, cc, B, hcell, hnB, hq⟩ := HB4.out t ht3
              have hcw := ck hcell hb10
              have X_10 := Lib.hid (X_7.out.below hb10 (Nat.le_refl _))
              have Y_10 := Lib.hid (Y_7.out.below hb10 (Nat.le_refl _))
              have Z_10 := Lib.hid (Z_7.out.below hb10 (Nat.le_refl _))
              have S_10 := Lib.hid (hnB.below hb10 (Nat.le_refl _))
              have HCl := Lib.hid (fun w' (h' : Nats w' (.slice (some ⟨g, 0, none⟩) k cc) B) => clone_nats (.slice (some ⟨g, 0, none⟩) k cc) B k w' hq.brd h')
              have HRkB := Lib.hid (fun v' w' (h' : Nats w' v' B) (hT' : Tab w') => Rooks_val v' B k w' hq.brd h' hT')
              have HHtB := Lib.hid (fun v' w' (h' : Nats w' v' B) (hT' : Tab w') => Hits_val v' B k w' hq.brd h' hT')
              have HHeB := Lib.hid (fun v' w' (h' : Nats w' v' B) => Heights_val v' B k w' hq.brd h')
              rw [hq.rooks] at HRkB
              rw [hq.hits] at HHtB
              rw [hq.err] at HHeB
              have HHg := Lib.hid hq.heights
              generalize htV B = hB2 at *
              clear hcell hnB hq hb10 HB4
              go_wp2_with fail
              refine (HCl.out w10 S_10.out).mono ?_
              rintro e w11 ⟨v11, rfl, hv11, hb11⟩
              have HB11 := Lib.hid (HB10.out.trans (hb11.mono HB10.out.size))
              have X_11 := Lib.hid (X_10.out.below hb11 (Nat.le_refl _))
              have Y_11 := Lib.hid (Y_10.out.below hb11 (Nat.le_refl _))
              have Z_11 := Lib.hid (Z_10.out.below hb11 (Nat.le_refl _))
              have S_11 := Lib.hid (S_10.out.below hb11 (Nat.le_refl _))
              have C_11 := Lib.hid (hv11)
              clear hb11 hv11
              go_wp2_with fail
              refine (HRkB.out v11 w11 C_11.out (HT4.out w11 HB11.out)).mono ?_
              rintro e w12 ⟨v12, rfl, hv12, hb12⟩
              have HB12 := Lib.hid (HB11.out.trans (hb12.mono HB11.out.size))
              have X_12 := Lib.hid (X_11.out.below hb12 (Nat.le_refl _))
              have Y_12 := Lib.hid (Y_11.out.below hb12 (Nat.le_refl _))
              have Z_12 := Lib.hid (Z_11.out.below hb12 (Nat.le_refl _))
              have S_12 := Lib.hid (S_11.out.below hb12 (Nat.le_refl _))
              have C_12 := Lib.hid (C_11.out.below hb12 (Nat.le_refl _))
              have U_12 := Lib.hid (hv12)
              clear hb12 hv12
              clear C_12
              go_wp2_with fail
              refine (HCl.out w12 S_12.out).mono ?_
              rintro e w13 ⟨v13, rfl, hv13, hb13⟩
              have HB13 := Lib.hid (HB12.out.trans (hb13.mono HB12.out.size))
              have X_13 := Lib.hid (X_12.out.below hb13 (Nat.le_refl _))
              have Y_13 := Lib.hid (Y_12.out.below hb13 (Nat.le_refl _))
              have Z_13 := Lib.hid (Z_12.out.below hb13 (Nat.le_refl _))
              have S_13 := Lib.hid (S_12.out.below hb13 (Nat.le_refl _))
              have U_13 := Lib.hid (U_12.out.below hb13 (Nat.le_refl _))
              have C_13 := Lib.hid (hv13)
              clear hb13 hv13
              go_wp2_with fail
              refine (HHtB.out v13 w13 C_13.out (HT4.out w13 HB13.out)).mono ?_
              rintro e w14 ⟨v14, rfl, hv14, hb14⟩
              have HB14 := Lib.hid (HB13.out.trans (hb14.mono HB13.out.size))
              have X_14 := Lib.hid (X_13.out.below hb14 (Nat.le_refl _))
              have Y_14 := Lib.hid (Y_13.out.below hb14 (Nat.le_refl _))
              have Z_14 := Lib.hid (Z_13.out.below hb14 (Nat.le_refl _))
              have S_14 := Lib.hid (S_13.out.below hb14 (Nat.le_refl _))
              have U_14 := Lib.hid (U_13.out.below hb14 (Nat.le_refl _))
              have C_14 := Lib.hid (C_13.out.below hb14 (Nat.le_refl _))
              have V_14 := Lib.hid (hv14)
              clear hb14 hv14
              clear C_14
              go_wp2_with fail
              refine (HCl.out w14 S_14.out).mono ?_
              rintro e w15 ⟨v15, rfl, hv15, hb15⟩
              have HB15 := Lib.hid (HB14.out.trans (hb15.mono HB14.out.size))
              have X_15 := Lib.hid (X_14.out.below hb15 (Nat.le_refl _))
              have Y_15 := Lib.hid (Y_14.out.below hb15 (Nat.le_refl _))
              have Z_15 := Lib.hid (Z_14.out.below hb15 (Nat.le_refl _))
              have S_15 := Lib.hid (S_14.out.below hb15 (Nat.le_refl _))
              have U_15 := Lib.hid (U_14.out.below hb15 (Nat.le_refl _))
              have V_15 := Lib.hid (V_14.out.below hb15 (Nat.le_refl _))
              have C_15 := Lib.hid (hv15)
              clear hb15 hv15
              go_wp2_with fail
              refine (HHeB.out v15 w15 C_15.out).mono ?_
              rintro e w16 ⟨v16, rfl, hv16, hb16⟩
              have HB16 := Lib.hid (HB15.out.trans (hb16.mono HB15.out.size))
              have X_16 := Lib.hid (X_15.out.below hb16 (Nat.le_refl _))
              have Y_16 := Lib.hid (Y_15.out.below hb16 (Nat.le_refl _))
              have Z_16 := Lib.hid (Z_15.out.below hb16 (Nat.le_refl _))
              have S_16 := Lib.hid (S_15.out.below hb16 (Nat.le_refl _))
              have U_16 := Lib.hid (U_15.out.below hb16 (Nat.le_refl _))
              have V_16 := Lib.hid (V_15.out.below hb16 (Nat.le_refl _))
              have C_16 := Lib.hid (C_15.out.below hb16 (Nat.le_refl _))
              have P_16 := Lib.hid (hv16)
              clear hb16 hv16
              clear C_16
              clear S_16
              go_wp2_with fail
              refine (HEq.out _ _ _ w16 U_16.out X_16.out).mono ?_
              rintro e w17 ⟨rfl, hb17⟩
              have HB17 := Lib.hid (HB16.out.trans (hb17.mono HB16.out.size))
              have X_17 := Lib.hid (X_16.out.below hb17 (Nat.le_refl _))
              have Y_17 := Lib.hid (Y_16.out.below hb17 (Nat.le_refl _))
              have Z_17 := Lib.hid (Z_16.out.below hb17 (Nat.le_refl _))
              have U_17 := Lib.hid (U_16.out.below hb17 (Nat.le_refl _))
              have V_17 := Lib.hid (V_16.out.below hb17 (Nat.le_refl _))
              have P_17 := Lib.hid (P_16.out.below hb17 (Nat.le_refl _))
              clear hb17
              clear U_17
              clear X_17
              go_wp2_with fail
              refine (HEq.out _ _ _ w17 V_17.out Y_17.out).mono ?_
              rintro e w18 ⟨rfl, hb18⟩
              have HB18 := Lib.hid (HB17.out.trans (hb18.mono HB17.out.size))
              have Y_18 := Lib.hid (Y_17.out.below hb18 (Nat.le_refl _))
              have Z_18 := Lib.hid (Z_17.out.below hb18 (Nat.le_refl _))
              have V_18 := Lib.hid (V_17.out.below hb18 (Nat.le_refl _))
              have P_18 := Lib.hid (P_17.out.below hb18 (Nat.le_refl _))
              clear hb18
              clear V_18
              clear Y_18
              have hhe : (he != he) = false := by simp
              by_cases ht2 : t < 2
              · have e2 := HHg.out ht2
                subst e2
                go_wp2_with fail
                refine (HEq.out _ _ _ w18 P_18.out Z_18.out).mono ?_
                rintro e w19 ⟨rfl, hb19⟩
                have HB19 := Lib.hid (HB18.out.trans (hb19.mono HB18.out.size))
                have Z_19 := Lib.hid (Z_18.out.below hb19 (Nat.le_refl _))
                have P_19 := Lib.hid (P_18.out.below hb19 (Nat.le_refl _))
                clear hb19
                clear P_19
                clear Z_19
                go_wp2
                go_roundw
                case rel => exact ⟨t + 1, by omega, by go_num, HB19.out⟩
                case measure => simp [intOf]; omega
              · clear HHg
                go_wp2
                go_roundw
                case rel => exact ⟨t + 1, by omega, by go_num, HB18.out⟩
                case measure => simp [intOf]; omega

            · obtain rfl : t = 3 := by omega
              have HAw4 := Lib.hid (HAw.out w10 (HBw4.out.trans (hb10.mono HBw4.out.size)))
              have HBf := Lib.hid (HBw4.out.trans (hb10.mono HBw4.out.size))
              rcases HE04.out with rfl | rfl
              all_goals
                go_wp2_with fail
                refine HAw4.out.mono ?_
                rintro e w11 ⟨rfl, hb11⟩
                have HBg := Lib.hid (HBf.out.trans (hb11.mono HBf.out.size))
                clear hb11
                go_wp2
                go_ret
                exact ⟨rfl, HBg.out⟩

theorem rooksTurned_law (v : Value) (xs : List Int) (i j : Int) (w : World) (h : Ints w v xs) (hT : Tab w) :
    Calls Tryd.prog 13 #[v, .int .i64 i, .int .i64 j] w fun e w' => e = .returned (.bool true) ∧ Below w.heap.size w w' := by
  cases hs : boardB xs with
  | false => exact rooksTurned_bad v xs i j w h hs hT
  | true =>
    obtain ⟨bs, rfl, hb⟩ := boardB_of hs
    rw [nats_length] at hb
    exact rooksTurned_good v bs bs.length i j w h hb hT
end Go.Proofs.YtellnklbkjajbaaDoor
