/- rookNumbers' closure: the leaf -/
import Derived.Test.YtellnklbkjajbaaDoorEl
import Derived.Deep.RegionHeld3
namespace Go.Proofs.YtellnklbkjajbaaDoor
open Go.RowKit Go.Shelf

theorem TabK.mod {A : Nat} (hA : A ≠ 1) {W W' : World} (h : Mod (· = A) W W') : TabK W W' := fun hT => tab_block hT (h.block 1 (tab_lt hT) fun e => hA e.symm)

/-- A block of ints known whole. -/
def IBlk (w : World) (A : Nat) (vs : List Int) : Prop := w.heap[A]? = some (.cells (ints vs).toArray 3 (0, 0))
theorem IBlk.lt {w : World} {A : Nat} {vs : List Int} (h : IBlk w A vs) : A < w.heap.size := lt_of_block h
theorem IBlk.cell {w : World} {A : Nat} {vs : List Int} (h : IBlk w A vs) {k : Nat} (hk : k < vs.length) : w.cell? ⟨A, k, none⟩ = some (.int .i64 (vs.getD k 0)) ∧ w.frozen? ⟨A, k, none⟩ = false := by
  constructor
  · simp only [World.cell?, show w.heap[A]? = _ from h]
    simp [ints, hk]
  · simp [World.frozen?, show w.heap[A]? = _ from h]
theorem IBlk.set {w : World} {A : Nat} {vs : List Int} (h : IBlk w A vs) (k : Nat) (x : Int) : IBlk (w.setCell ⟨A, k, none⟩ (.int .i64 x)) A (vs.set k x) := by
  unfold IBlk; rw [heap_set_at h]; simp [ints, List.map_set]
theorem IBlk.alloc {w : World} {A : Nat} {vs : List Int} (h : IBlk w A vs) (o : Obj) : IBlk (w.alloc o) A vs := by
  unfold IBlk; rw [Below.heap_alloc _ _ _ h.lt]; exact h

/-- What the search makes of the numbers vs, from the rows bs on. -/
def rk : List Nat → Nat → Nat → List Int → List Int
  | [], _, k, vs => vs.set k (wrap64 (vs.getD k 0 + 1))
  | r :: rs, tk, k, vs => (elems (sub r tk)).foldl (fun v j => rk rs (tk ||| 2 ^ j) (k + 1) v) (rk rs tk k vs)
theorem foldl_length {α β : Type} (f : List α → β → List α) (h : ∀ v j, (f v j).length = v.length) (js : List β) (v : List α) : (js.foldl f v).length = v.length := by
  induction js generalizing v with
  | nil => rfl
  | cons j js ih => rw [List.foldl_cons, ih, h]
theorem rk_length (rs : List Nat) (tk k : Nat) (vs : List Int) : (rk rs tk k vs).length = vs.length := by
  induction rs generalizing tk k vs with
  | nil => simp [rk]
  | cons r rs ih => rw [rk, foldl_length _ (fun v j => ih _ _ v), ih]

/-- What the search reads: it stays whatever is done beside the block A. -/
def RkEnv (bs : List Nat) (A Bb Bw Bp : Nat) (w : World) : Prop := ∀ w', Mod (· = A) w w' →
  Tab w' ∧ (∃ ao cap, w'.cell? ⟨Bb, 0, none⟩ = some (.slice ao bs.length cap) ∧ bs.length ≤ cap ∧ ∀ k, k < bs.length → ∃ b o, ao = some ⟨b, o, none⟩ ∧ w'.cell? ⟨b, o + k, none⟩ = some (.int .i64 (bs.getD k 0 : Nat))) ∧
  w'.cell? ⟨Bw, 0, none⟩ = some (.slice (some ⟨A, 0, none⟩) (bs.length + 1) (bs.length + 1)) ∧
  w'.cell? ⟨Bp, 0, none⟩ = some (.func (.func 77) #[] #[.pointer (some ⟨Bb, 0, none⟩), .pointer (some ⟨Bw, 0, none⟩), .pointer (some ⟨Bp, 0, none⟩)])
theorem RkEnv.mod {bs : List Nat} {A Bb Bw Bp : Nat} {w w' : World} (h : RkEnv bs A Bb Bw Bp w) (hm : Mod (· = A) w w') : RkEnv bs A Bb Bw Bp w' := fun w'' h'' => h w'' (hm.trans h'' fun _ hx => .inl hx)

/-- The three boxes of an activation. -/
abbrev box3 (w : World) (i tk k : Nat) : World := ((w.alloc (.cells #[.int .i64 i] 3)).alloc (.cells #[.int .i64 tk] 3)).alloc (.cells #[.int .i64 k] 3)
theorem box3_mod (S : Nat → Prop) (w : World) (i tk k : Nat) : Mod S w (box3 w i tk k) := (((Mod.refl S w).alloc _).alloc _).alloc _

set_option maxRecDepth 100000 in
set_option maxHeartbeats 1000000 in
theorem place_leaf (bs : List Nat) (A Bb Bw Bp tk k : Nat) (vs : List Int) (w : World) (hE : RkEnv bs A Bb Bw Bp w) (hB : IBlk w A vs) (hk : k ≤ bs.length) (hl : vs.length = bs.length + 1) :
    Calls Tryd.prog 77 #[.int .i64 bs.length, .int .i64 tk, .int .i64 k, .pointer (some ⟨Bb, 0, none⟩), .pointer (some ⟨Bw, 0, none⟩), .pointer (some ⟨Bp, 0, none⟩)] w fun e w' =>
      (∃ v, e = .returned v) ∧ IBlk w' A (rk [] tk k vs) ∧ Mod (· = A) w w' := by
  obtain ⟨_, ⟨ao, cap, hb, hcap, _⟩, hw, _⟩ := hE (box3 w bs.length tk k) (box3_mod _ _ _ _ _)
  obtain ⟨hc, hf⟩ := (((hB.alloc (.cells #[.int .i64 bs.length] 3)).alloc (.cells #[.int .i64 tk] 3)).alloc (.cells #[.int .i64 k] 3)).cell (k := k) (by omega)
  have HS : Hid (IBlk ((box3 w bs.length tk k).setCell ⟨A, k, none⟩ (.int .i64 (wrap64 (vs.getD k 0 + 1)))) A (rk [] tk k vs)) :=
    (((hB.alloc (.cells #[.int .i64 bs.length] 3)).alloc (.cells #[.int .i64 tk] 3)).alloc (.cells #[.int .i64 k] 3)).set k _
  have HM : Hid (Mod (· = A) w ((box3 w bs.length tk k).setCell ⟨A, k, none⟩ (.int .i64 (wrap64 (vs.getD k 0 + 1))))) := Lib.hid ((box3_mod (· = A) w _ _ _).setCell (.inl rfl) _)
  clear hE hB
  generalize vs.getD k 0 = x at *
  go_enter Tryd.func77, Tryd.ntmps77
  go_wp2
  refine bodyPost_ret (results_none rfl _ _ _) rfl ?_
  exact ⟨⟨_, rfl⟩, HS.out, HM.out⟩
end Go.Proofs.YtellnklbkjajbaaDoor
