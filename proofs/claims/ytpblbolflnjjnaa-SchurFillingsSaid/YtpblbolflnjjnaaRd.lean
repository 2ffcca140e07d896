/- copied -/
import Derived.Test.YtpblbolflnjjnaaRc
import Derived.Laws.AppendOwnNone
namespace Go.Proofs.Ytpblbolflnjjnaa
open Go.RowKit

theorem RowsOwned.grown {w w' : World} {B : Nat} {vs : List Value} {xss : List (List Int)} {r : Option Nat} (h : RowsOwned w B vs xss) (hg : w.grownBy w' r)
    (hr : ∀ g, r = some g → ∃ cs fr, w.heap[g]? = some (.cells cs 22 fr)) : RowsOwned w' B vs xss := by
  refine ⟨h.1, fun i u xs a b => (h.2.1 i u xs a b).kept hg ?_, h.2.2⟩
  cases r with
  | none =>
    cases hu : u.ownBlock with
    | none => exact .inl rfl
    | some g => exact .inr (by simp)
  | some g =>
    right
    intro e
    obtain ⟨cs, fr, hh⟩ := hr g rfl
    obtain ⟨_, h2⟩ := h.2.1 i u xs a b
    rcases h2 with ⟨rfl, _⟩ | ⟨g', cap, cur, rfl, _, hh', _⟩
    · cases e
    · simp only [Value.ownBlock, Option.some.injEq] at e
      subst e
      exact types_ne hh hh' (by decide) rfl

theorem owns_type {w : World} {B : Nat} {e : TypeId} {size : Nat} {v : Value} {n : Nat} {xs : List Value} (h : w.ownsRow B e size v n xs) : ∀ g, v.ownBlock = some g → ∃ cs fr, w.heap[g]? = some (.cells cs e fr) := by
  intro g hg
  obtain ⟨_, h2⟩ := h
  rcases h2 with ⟨rfl, _⟩ | ⟨g', cap, cur, rfl, _, hh, _⟩
  · cases hg
  · simp only [Value.ownBlock, Option.some.injEq] at hg
    subst hg
    exact ⟨_, _, hh⟩

/-- copied's loop behind k rounds. -/
def CopyInv (w : World) (xss : List (List Int)) (k : Nat) (v : Value) (wr : World) : Prop :=
  ∃ vs, wr.ownsRow w.heap.size 22 1 v k vs ∧ RowsOwned wr w.heap.size vs (xss.take k) ∧ Below w.heap.size w wr

theorem take_snoc2 {α : Type} (xs : List α) (k : Nat) (d : α) (h : k < xs.length) : xs.take (k+1) = xs.take k ++ [xs.getD k d] := by
  rw [List.take_succ_eq_append_getElem h]; simp [List.getD, h]

/-- a round: a row is made in w1 (out of wr), and appended in w2. -/
theorem CopyInv.step {w wr w1 w2 : World} {xss : List (List Int)} {k : Nat} {v u v' : Value} {vs : List Value} {o : Obj} (h1 : wr.ownsRow w.heap.size 22 1 v k vs) (h2 : RowsOwned wr w.heap.size vs (xss.take k)) (h3 : Below w.heap.size w wr)
    (hk : k < xss.length) (hb : Below wr.heap.size wr w1) (hu : w1.ownsRow wr.heap.size 3 1 u (xss.getD k []).length (ints (xss.getD k [])))
    (ho : w2.ownsRow w.heap.size 22 1 v' (k + 1) (vs ++ [u])) (hg : (w1.alloc o).grownBy w2 v.ownBlock) : CopyInv w xss (k + 1) v' w2 := by
  have h1' := owns_below h1 hb (Nat.le_refl _)
  have hr1 := (h2.below hb (Nat.le_refl _)).snoc (C := wr.heap.size) hu h3.size fun i x b hx hb' => (h2.lt hx hb').2
  refine ⟨vs ++ [u], ho, ?_, ?_⟩
  · rw [take_snoc2 xss k [] hk]
    have hr2 : RowsOwned (w1.alloc o) w.heap.size (vs ++ [u]) (xss.take k ++ [xss.getD k []]) := hr1.below ((Below.refl _ _).alloc (Nat.le_refl _) o) (Nat.le_refl _)
    refine hr2.grown hg fun g hg' => ?_
    obtain ⟨cs, fr, hh⟩ := owns_type h1' g hg'
    exact ⟨cs, fr, (Below.heap_alloc _ _ _ (lt_of_block hh)).trans hh⟩
  · refine ((h3.trans (hb.mono h3.size)).alloc (Nat.le_trans h3.size hb.size) o).grown hg (Nat.le_trans (Nat.le_trans h3.size hb.size) (by simp)) fun g hg' => (h1.lt g hg').1

theorem newOneAt (w : World) (x : Value) (t : TypeId) {n : Nat} (hn : n = w.heap.size) : ∀ (j : Nat) (u : Value), [x][j]? = some u → (w.alloc (.cells #[x] t)).cell? ((⟨n, 0, none⟩ : Addr).add j) = some u := by
  subst hn; exact newOne w x t

/-- a slice without an array has no elements and no room. -/
def NilOk (v : Value) : Prop := ∀ n c, v = .slice none n c → n = 0 ∧ c = 0

theorem owns_nilok {w : World} {B : Nat} {e : TypeId} {size : Nat} {v : Value} {n : Nat} {xs : List Value} (h : w.ownsRow B e size v n xs) : NilOk v := by
  intro m c hv
  obtain ⟨_, h2⟩ := h
  rcases h2 with ⟨rfl, _⟩ | ⟨g, cap, cur, rfl, _⟩
  · simp at hv; omega
  · simp at hv

/-- rows that were made. -/
def MadeRows (w : World) (v : Value) (xss : List (List Int)) : Prop := SlOf (fun w u xs => Ints w u xs ∧ NilOk u) w v xss

theorem MadeRows.below {w w' : World} {B : Nat} {v : Value} {xs : List (List Int)} (h : MadeRows w v xs) (hb : Below B w w') (hB : w.heap.size ≤ B) : MadeRows w' v xs :=
  SlOf.below h hb hB fun _ _ h => ⟨h.1.below hb hB, h.2⟩

theorem MadeRows.rows {w : World} {v : Value} {xss : List (List Int)} (h : MadeRows w v xss) : IntRows w v xss := by
  obtain ⟨vs, h1, h2, h3⟩ := h
  exact ⟨vs, h1, h2, fun i u x a b => (h3 i u x a b).1⟩

theorem OwnRows.made {w : World} {B : Nat} {v : Value} {xss : List (List Int)} (h : OwnRows w B v xss) (hn : xss.length ≤ 17592186044416) (hm : ∀ xs ∈ xss, xs.length ≤ 17592186044416 ∧ ∀ x ∈ xs, I64 x) : MadeRows w v xss := by
  obtain ⟨vs, h1, h2, h3, _⟩ := h
  exact ⟨vs, Sl.of_owns h1 hn, h2, fun i u xs a b => ⟨⟨Sl.of_owns (h3 i u xs a b) (hm xs (List.mem_of_getElem? b)).1, (hm xs (List.mem_of_getElem? b)).2⟩, owns_nilok (h3 i u xs a b)⟩⟩

set_option maxRecDepth 100000 in
set_option maxHeartbeats 2000000 in
theorem copied_any (v : Value) (xss : List (List Int)) (w : World) (h : MadeRows w v xss) (hn : xss.length ≤ 1000000) :
    Calls Try.prog 93 #[v] w fun e w' => ∃ ao c, e = .returned (.slice ao xss.length c) ∧ OwnRows w' w.heap.size (.slice ao xss.length c) xss ∧ Below w.heap.size w w' := by
  obtain ⟨ao, cap, rfl, h1, h2, hc⟩ := h.open
  obtain ⟨i3, hi3, hz0, hz1, hz2⟩ := info_parts Try.info3
  obtain ⟨i22, hi22, hy0, hy1, hy2⟩ := info_parts Try.info22
  have HC := hidIt hc
  clear h hc
  go_enter Try.func93, Try.ntmps93
  go_wp2
  go_loopw [3, 8] (fun s3 s8 wr => ∃ k : Nat, k ≤ xss.length ∧ s8 = .int .i64 k ∧ CopyInv w xss k s3 wr) (fun _ s8 _ => xss.length - (intOf s8).toNat)
  case atStart => exact ⟨0, Nat.zero_le _, rfl, [], World.ownsRow_nil _ _ _ _, RowsOwned.nil _ _, Below.refl _ _⟩
  case round =>
    obtain ⟨k, hk, rfl, hinv⟩ := hrel
    obtain ⟨vs, q1, q2, q3⟩ := hinv
    obtain ⟨av, cv, rfl⟩ := owns_form q1
    have Q1 := hidIt q1
    have Q2 := hidIt q2
    have Q3 := hidIt q3
    clear q1 q2 q3
    by_cases hlt : k < xss.length
    · obtain ⟨b, o, u, rfl, hck, hu, hnil⟩ := HC.out k xss[k] (by simp [hlt])
      have hk1 := (Q3.out.cell (p := ⟨b, o + k, none⟩) (World.block_lt_of_cell? w _ hck)).trans hck
      have hu' := hu.below Q3.out (Nat.le_refl _)
      have eg : xss.getD k [] = xss[k] := by simp [List.getD, hlt]
      obtain ⟨au, cu, rfl, u1, u2, uc⟩ := hu'.open
      have HU := hidIt hu'
      have UC := hidIt uc
      have EG := hidIt eg
      clear hck hu hu' uc eg
      rcases au with _ | ad
      · obtain ⟨hl0, rfl⟩ := hnil _ _ rfl
        have hx0 : xss[k] = [] := List.eq_nil_of_length_eq_zero hl0
        rw [hl0] at *
        have HMk := hidIt (World.ownsRow_made (base := wr.heap.size) (e := 3) (size := 1) wr #[] 0 (Nat.le_refl _) (Nat.zero_le _) rfl)
        have HX0 := hidIt hx0
        clear hnil hx0
        have HW1 : Hid ((wr.alloc (.cells #[] 3)).ownsRow wr.heap.size 3 1 (.slice (some ⟨wr.heap.size, 0, none⟩) 0 0) (xss.getD k []).length (ints (xss.getD k [])) ∧ Below wr.heap.size wr (wr.alloc (.cells #[] 3))) := by
          rw [EG.out, HX0.out]
          exact ⟨HMk.out, (Below.refl _ _).alloc (Nat.le_refl _) _⟩
        go_wp2_with (first | (at_builtin; refine wpList_append_own_none rfl (.tmp 13) (.tmp 14) 22 rfl wr.heap.size 3 i3 1 Try.underlying22 hi3 _ 0 [] rfl HMk.out rfl ?_) | (at_builtin; go_must (refine wpList_append_own _ rfl (.tmp 12) (.tmp 16) 34 rfl w.heap.size 22 i22 (.slice none 0 0) 1 24 Try.underlying34 hi22 hy0 hy1 hy2 rfl (by decide) _ k vs rfl ((owns_below Q1.out HW1.out.2 (Nat.le_refl _)).alloc _) ⟨wr.heap.size + 1, 0, none⟩ 1 1 [.slice (some ⟨wr.heap.size, 0, none⟩) 0 0] rfl rfl (newOneAt (wr.alloc (.cells #[] 3)) _ _ (by simp)) (by intro u hu; simp at hu; subst hu; rfl) (by unfold maxLen; omega) (by omega) (Nat.le_trans (Nat.le_trans Q3.out.size HW1.out.2.size) (by simp)) ?_)))
        intro v2 w2 ho2 hg2 _
        have HI : Hid (CopyInv w xss (k + 1) v2 w2) := CopyInv.step Q1.out Q2.out Q3.out hlt HW1.out.2 HW1.out.1 ho2 hg2
        clear ho2 hg2
        go_wp2
        go_roundw
        case rel => exact ⟨k + 1, by omega, by go_num, HI.out⟩
        case measure => simp [intOf]; omega
      · go_wp2_with (at_builtin; go_must (refine wpList_append_own _ rfl (.tmp 13) (.tmp 14) 22 rfl wr.heap.size 3 i3 (.int .i64 0) 1 8 Try.underlying22 hi3 hz0 hz1 hz2 rfl (by decide) _ _ _ rfl (World.ownsRow_made wr #[] 0 (Nat.le_refl _) (Nat.zero_le _) rfl) ad xss[k].length cu (ints xss[k]) rfl (by simp [ints]) ?c1 (ints_oneCell _ _) (by unfold maxLen; omega) (by omega) (by simp) ?_))
        case c1 =>
          intro j y hj
          have hjl : j < xss[k].length := by have := (List.getElem?_eq_some_iff.1 hj).1; simpa [ints] using this
          obtain ⟨b', o', e, hck'⟩ := UC.out j hjl
          obtain rfl := Option.some.inj e
          have hy' : y = .int .i64 (xss[k].getD j 0) := by simp [ints, hjl] at hj; simp [hjl, ← hj]
          rw [Addr.add_lit, hy', ← hck']
          exact World.cell?_alloc_past _ _ _ (World.block_lt_of_cell? wr _ hck')
        intro u1 w1 ho1 hg1 _
        obtain ⟨a1, c1, rfl⟩ := owns_form ho1
        have HW1 : Hid (w1.ownsRow wr.heap.size 3 1 (.slice a1 xss[k].length c1) (xss.getD k []).length (ints (xss.getD k [])) ∧ Below wr.heap.size wr w1) := by
          rw [EG.out]
          refine ⟨by simpa using ho1, ((Below.refl _ _).alloc (Nat.le_refl _) _).grown hg1 (by simp) (by intro g hg; simp [Value.ownBlock] at hg; omega)⟩
        clear ho1 hg1
        have HU1 : Hid (w1.ownsRow wr.heap.size 3 1 (.slice a1 xss[k].length c1) (xss.getD k []).length (ints (xss.getD k [])) ∧ Below wr.heap.size wr w1) := HW1
        clear HW1
        go_wp2_with (at_builtin; go_must (refine wpList_append_own _ rfl (.tmp 12) (.tmp 16) 34 rfl w.heap.size 22 i22 (.slice none 0 0) 1 24 Try.underlying34 hi22 hy0 hy1 hy2 rfl (by decide) _ k vs rfl ((owns_below Q1.out HU1.out.2 (Nat.le_refl _)).alloc _) ⟨w1.heap.size, 0, none⟩ 1 1 [.slice a1 xss[k].length c1] rfl rfl (newOne _ _ _) (by intro u hu; simp at hu; subst hu; rfl) (by unfold maxLen; omega) (by omega) (Nat.le_trans (Nat.le_trans Q3.out.size HU1.out.2.size) (by simp)) ?_))
        intro v2 w2 ho2 hg2 _
        have HI : Hid (CopyInv w xss (k + 1) v2 w2) := CopyInv.step Q1.out Q2.out Q3.out hlt HU1.out.2 HU1.out.1 ho2 hg2
        clear ho2 hg2
        go_wp2
        go_roundw
        case rel => exact ⟨k + 1, by omega, by go_num, HI.out⟩
        case measure => simp [intOf]; omega
    · obtain rfl : k = xss.length := by omega
      go_wp2
      go_ret
      have q2 := Q2.out
      rw [List.take_length] at q2
      exact ⟨_, _, rfl, ⟨vs, Q1.out, q2⟩, Q3.out⟩
end Go.Proofs.Ytpblbolflnjjnaa
