/- sets: the reference's table -/
import Derived.Test.YtllokfkagneneaaV
import Derived.Test.YtllokfkagneneaaS
namespace Go.Proofs.Ytllokfkagneneaa
open Go.RowKit

theorem Try.info4 : (Try.prog.info? 4).map (fun i => (i.zero, i.size, i.bytes)) = some (some (.bool false), 1, 1) := by kernel_rfl
theorem Try.info99 : (Try.prog.info? 99).map (fun i => (i.zero, i.size, i.bytes)) = some (some (.slice none 0 0), 1, 24) := by kernel_rfl

theorem own_blk_ne {w : World} {g : Nat} {t : TypeId} {cs : Array Value} {base : Nat} {e : TypeId} {size n : Nat} {v : Value} {xs : List Value} (h : w.ownsRow base e size v n xs) (hg : w.heap[g]? = some (.cells cs t (0, 0))) (hne : e ≠ t) : v.ownBlock ≠ some g := by
  rcases h.2 with ⟨rfl, _⟩ | ⟨g', cap, cur, rfl, _, hh, _⟩
  · simp [Value.ownBlock]
  · intro he
    have : g' = g := by simpa [Value.ownBlock] using he
    subst this
    rw [hh] at hg
    injection hg with hg
    injection hg with _ ht
    exact hne ht
theorem own_own_ne {w : World} {B B' : Nat} {e e' : TypeId} {s s' n n' : Nat} {v v' : Value} {xs xs' : List Value} (h : w.ownsRow B e s v n xs) (h' : w.ownsRow B' e' s' v' n' xs') (hne : e ≠ e') :
    v'.ownBlock = none ∨ v'.ownBlock ≠ v.ownBlock := by
  rcases h'.2 with ⟨rfl, _⟩ | ⟨g', cap, cur, rfl, _, hh, _⟩
  · left; rfl
  · right
    intro he
    exact own_blk_ne h hh hne he.symm

def boolsV (bs : List Bool) : List Value := bs.map Value.bool
/-- What point i says of the first k lines. -/
def onRow (q i k : Nat) : List Bool := (List.range k).map fun j => onB q i j
theorem onRow_succ (q i k : Nat) : boolsV (onRow q i (k+1)) = boolsV (onRow q i k) ++ [.bool (onB q i k)] := by simp [boolsV, onRow, List.range_succ]
theorem onRow_length (q i k : Nat) : (boolsV (onRow q i k)).length = k := by simp [boolsV, onRow]

/-- Rows of bools that a call owns. -/
def OnRows (w : World) (B q k : Nat) (vs : List Value) : Prop :=
  vs.length = k ∧ ∀ (i : Nat) (u : Value), vs[i]? = some u → w.ownsRow B 4 1 u (np q) (boolsV (onRow q i (np q)))
theorem OnRows.below {w w' : World} {B C q k : Nat} {vs : List Value} (h : OnRows w B q k vs) (hb : Below C w w') (hC : w.heap.size ≤ C) : OnRows w' B q k vs :=
  ⟨h.1, fun i u hu => owns_below (h.2 i u hu) hb hC⟩
theorem OnRows.snoc {w : World} {B q k : Nat} {vs : List Value} {u : Value} (h : OnRows w B q k vs) (hu : w.ownsRow B 4 1 u (np q) (boolsV (onRow q k (np q)))) : OnRows w B q (k+1) (vs ++ [u]) := by
  obtain ⟨h1, h2⟩ := h
  refine ⟨by simp [h1], fun i x hx => ?_⟩
  rcases Nat.lt_or_ge i vs.length with hi | hi
  · rw [List.getElem?_append_left hi] at hx
    exact h2 i x hx
  · have hi' : i = vs.length := by
      have := (List.getElem?_eq_some_iff.1 hx).1
      simp at this; omega
    subst hi'
    rw [List.getElem?_append_right (Nat.le_refl _)] at hx
    simp at hx
    subst hx
    rw [h1]; exact hu

theorem oneBool (x : Bool) : ∀ u ∈ [Value.bool x], u.oneCell' = true := by
  intro u hu; simp at hu; subst hu; rfl

set_option maxHeartbeats 8000000 in
set_option maxRecDepth 100000 in
theorem table_any (q : Nat) (w : World) (hq : isPn q) :
    Calls Try.prog 80 #[.int .i64 q] w fun e w' => ∃ v vs, e = .returned v ∧ w'.ownsRow w.heap.size 99 1 v (np q) vs ∧ OnRows w' w.heap.size q (np q) vs ∧ Below w.heap.size w w' := by
  have HR := Lib.hid (rpoints_any q w hq)
  have HNe := Lib.hid (ptsL_ne q)
  obtain ⟨hq2, hq7⟩ := hq.le
  have hn57 := np_le q hq7
  have hlen := Lib.hid (pts_length q)
  have HBd := Lib.hid (fun k (hk : k < np q) => pt_bd q k hq hk)
  obtain ⟨i4, hi4, hy0, hy1, hy2⟩ := info_parts Try.info4
  obtain ⟨i99, hi99, hz0, hz1, hz2⟩ := info_parts Try.info99
  clear hq
  go_enter Try.func80, Try.ntmps80
  go_wp2_with fail
  refine HR.out.mono ?_
  rintro e w1 ⟨v, rfl, hown, hbel⟩
  have hT := Tris.of_owns hown rfl HNe.out (by have := hlen.out; omega)
  obtain ⟨c, cap, rfl, hcap, hc, hx⟩ := hT.open_pts
  have HX := Lib.hid hx
  have HB := Lib.hid hbel
  have hsz := hbel.size
  clear hx hown hbel HR hT
  have HOR : Hid (∀ (w : World) (B k : Nat) (vs : List Value), OnRows w B q k vs → ∀ (u : Value), w.ownsRow B 4 1 u (np q) (boolsV (onRow q k (np q))) → OnRows w B q (k+1) (vs ++ [u])) := fun w B k vs h u hu => h.snoc hu
  obtain ⟨n, hn⟩ : ∃ n, n = np q := ⟨_, rfl⟩
  rw [← hn] at HX HBd HOR hn57 hcap
  rw [← hn]
  have HN := Lib.hid hn
  clear hn
  go_wp2_with fail
  go_loopw [3, 14] (fun v i wr => ∃ k vs, k ≤ n ∧ i = .int .i64 (k : Nat) ∧ wr.ownsRow w1.heap.size 99 1 v k vs ∧ OnRows wr w1.heap.size q k vs ∧ Below w1.heap.size w1 wr) (fun _ i _ => n - (intOf i).toNat)
  case atStart => exact ⟨0, [], Nat.zero_le _, rfl, World.ownsRow_nil _ _ _ _, ⟨rfl, fun i u h => by simp at h⟩, Below.refl _ _⟩
  case round =>
    rename World => wo
    obtain ⟨k, vs, hk, rfl, ho, hr, hb⟩ := hrel
    have HO := Lib.hid ho
    have HRw := Lib.hid hr
    have HBl := Lib.hid hb
    have hszr := hb.size
    clear ho hr hb
    by_cases hlt : k < n
    · obtain ⟨a0, a1, a2⟩ := HX.out k hlt
      obtain ⟨⟨e1, e2⟩, ⟨e3, e4⟩, ⟨e5, e6⟩⟩ := HBd.out k hlt
      have a0' := ck a0 HBl.out
      have a1' := ck a1 HBl.out
      have a2' := ck a2 HBl.out
      have HOX : Hid (∀ l, onB q k l = (((pt q k).1 * (pt q l).1 + (pt q k).2.1 * (pt q l).2.1 + (pt q k).2.2 * (pt q l).2.2) % (q:Int) == 0)) := fun l => rfl
      have HRow : Hid (∀ (w : World) (B : Nat) (vs : List Value), OnRows w B q k vs → ∀ (u : Value), w.ownsRow B 4 1 u n (boolsV (onRow q k n)) → OnRows w B q (k+1) (vs ++ [u])) := fun w B vs h u hu => HOR.out w B k vs h u hu
      clear a0 a1 a2
      generalize (pt q k).1 = x0 at *
      generalize (pt q k).2.1 = x1 at *
      generalize (pt q k).2.2 = x2 at *
      have HI := Lib.hid (IntBlk.new wo 31 [x0, x1, x2])
      have HBa := Lib.hid ((Below.refl wo.heap.size wo).alloc (Nat.le_refl _) (.cells #[.int .i64 x0, .int .i64 x1, .int .i64 x2] 31))
      go_wp2_with fail
      go_loopw [7, 20] (fun r j wr => ∃ l : Nat, l ≤ n ∧ j = .int .i64 l ∧ wr.ownsRow wo.heap.size 4 1 r l (boolsV (onRow q k l)) ∧ IntBlk wr wo.heap.size 31 [x0, x1, x2] ∧ Below wo.heap.size wo wr) (fun _ j _ => n - (intOf j).toNat)
      case atStart => exact ⟨0, Nat.zero_le _, rfl, World.ownsRow_nil _ _ _ _, HI.out, HBa.out⟩
      case round =>
        obtain ⟨l, hl, rfl, ho, hi, hb⟩ := hrel
        have HOj := Lib.hid ho
        have HIj := Lib.hid hi
        have HBj := Lib.hid hb
        have t0 := hi.cell (i := 0) (by simp)
        have t1 := hi.cell (i := 1) (by simp)
        have t2 := hi.cell (i := 2) (by simp)
        simp only [List.getD_cons_zero, List.getD_cons_succ] at t0 t1 t2
        have hszj := hi.lt
        clear ho hi hb
        by_cases hltl : l < n
        · obtain ⟨b0, b1, b2⟩ := HX.out l hltl
          obtain ⟨⟨f1, f2⟩, ⟨f3, f4⟩, ⟨f5, f6⟩⟩ := HBd.out l hltl
          have b0' := ck (ck b0 HBl.out) HBj.out
          have b1' := ck (ck b1 HBl.out) HBj.out
          have b2' := ck (ck b2 HBl.out) HBj.out
          have HOl := Lib.hid (HOX.out l)
          have HS := Lib.hid (onRow_succ q k l)
          clear b0 b1 b2
          generalize (pt q l).1 = y0 at *
          generalize (pt q l).2.1 = y1 at *
          generalize (pt q l).2.2 = y2 at *
          have HOa := Lib.hid (HOj.out.alloc (.cells #[.int .i64 y0, .int .i64 y1, .int .i64 y2] 31))
          have HIa : Hid (IntBlk (wr.alloc (.cells #[.int .i64 y0, .int .i64 y1, .int .i64 y2] 31)) wo.heap.size 31 [x0, x1, x2]) := (Below.heap_alloc _ _ _ hszj).trans HIj.out
          have HBa2 := Lib.hid (HBj.out.alloc HBj.out.size (.cells #[.int .i64 y0, .int .i64 y1, .int .i64 y2] 31))
          go_wp2_with fail
          refine (ron_any q _ _ _ _ _ _ _ hq2 hq7 (by omega) (by omega) (by omega) (by omega) (by omega) (by omega)).mono ?_
          rintro e w3 ⟨rfl, hb3⟩
          rw [← HOl.out]
          have HO3 := Lib.hid (owns_below HOa.out hb3 (Nat.le_refl _))
          have HI3 : Hid (IntBlk w3 wo.heap.size 31 [x0, x1, x2]) := (hb3.block _ HIa.out.lt).trans HIa.out
          have HB3 := Lib.hid (HBa2.out.trans (hb3.mono HBa2.out.size))
          clear hb3
          generalize onB q k l = bb at *
          go_wp2_with (at_builtin; refine wpList_append_own _ rfl _ _ 99 rfl wo.heap.size 4 i4 (.bool false) 1 1 Try.underlying99 hi4 hy0 hy1 hy2 rfl (by decide) _ _ _ rfl (HO3.out.alloc _) ⟨w3.heap.size, 0, none⟩ 1 1 [.bool bb] rfl rfl (newOne _ _ _) (oneBool _) (by unfold maxLen; omega) (by omega) (by have := HB3.out.size; simp; omega) ?_)
          intro v' w4 hown' hgrow _
          rw [← HS.out] at hown'
          have HO4 := Lib.hid hown'
          have HI4 : Hid (IntBlk w4 wo.heap.size 31 [x0, x1, x2]) := by
            have h1 : IntBlk (w3.alloc (.cells #[.bool bb] 4)) wo.heap.size 31 [x0, x1, x2] := (Below.heap_alloc _ _ _ HI3.out.lt).trans HI3.out
            exact (hgrow.block _ h1.lt (fun e => own_blk_ne HO3.out (HI3.out) (by decide) e.symm)).trans h1
          have HB4 := Lib.hid ((HB3.out.alloc HB3.out.size _).grown hgrow (by have := HB3.out.size; simp; omega) fun k hk => (HO3.out.lt k hk).1)
          clear hown' hgrow
          go_wp2
          go_roundw
          case rel => exact ⟨l + 1, by omega, by go_num, HO4.out, HI4.out, HB4.out⟩
          case measure => simp [intOf]; omega
        · obtain rfl : l = n := by omega
          obtain ⟨ao, cr, rfl⟩ := owns_form HOj.out
          have HOut := Lib.hid (owns_below HO.out HBj.out (Nat.le_refl _))
          have HRj := Lib.hid (HRw.out.below HBj.out (Nat.le_refl _))
          have HOm := Lib.hid (owns_mono HOj.out hszr)
          have HBw := Lib.hid (HBl.out.trans (HBj.out.mono HBl.out.size))
          have hszw := HBw.out.size
          go_wp2_with (at_builtin; refine wpList_append_own _ rfl _ _ 94 rfl w1.heap.size 99 i99 (.slice none 0 0) 1 24 Try.underlying94 hi99 hz0 hz1 hz2 rfl (by decide) _ _ _ rfl (HOut.out.alloc _) ⟨_, 0, none⟩ 1 1 [.slice ao l cr] rfl rfl (newOne _ _ _) (by intro u hu; simp at hu; subst hu; rfl) (by unfold maxLen; omega) (by omega) (by simp; omega) ?_)
          intro v' w5 hown' hgrow _
          have HO5 := Lib.hid hown'
          have HR5 : Hid (OnRows w5 w1.heap.size q k vs) := ⟨HRj.out.1, fun i u hu => ((HRj.out.2 i u hu).alloc _).kept hgrow (own_own_ne HOut.out (HRj.out.2 i u hu) (by decide))⟩
          have HM5 := Lib.hid ((HOm.out.alloc (.cells #[.slice ao l cr] 99)).kept hgrow (own_own_ne HOut.out HOm.out (by decide)))
          have HB5 := Lib.hid ((HBw.out.alloc HBw.out.size _).grown hgrow (by simp; omega) fun k hk => (HOut.out.lt k hk).1)
          have HR6 := Lib.hid (HRow.out _ _ _ HR5.out _ HM5.out)
          clear hown' hgrow
          go_wp2
          go_roundw
          case rel => exact ⟨k + 1, _, by omega, by go_num, HO5.out, HR6.out, HB5.out⟩
          case measure => simp [intOf]; omega
    · obtain rfl : k = n := by omega
      rw [HN.out] at HO HRw
      go_wp2
      go_ret
      exact ⟨_, vs, rfl, owns_mono HO.out hsz, ⟨HRw.out.1, fun i u hu => owns_mono (HRw.out.2 i u hu) hsz⟩, HB.out.trans (HBl.out.mono HB.out.size)⟩
end Go.Proofs.Ytllokfkagneneaa
