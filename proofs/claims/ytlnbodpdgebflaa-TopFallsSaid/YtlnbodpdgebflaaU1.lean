/- shapes and contents, as the document of the fillings has them; test; test; fill; fill: the walk; fill: what a round does to the memory -/
import Derived.Test.YtlnbodpdgebflaaNv
import Derived.Deep.RegionLaw
import Derived.Deep.Cut
namespace Go.Proofs.Ytlnbodpdgebflaa
open Go.RowKit

theorem isum_bd (xs : List Int) (h : ∀ x ∈ xs, 0 ≤ x ∧ x ≤ 8) : 0 ≤ isum xs ∧ isum xs ≤ 8 * xs.length := by
  induction xs with
  | nil => simp [isum]
  | cons a t ih =>
    have h1 := h a (by simp)
    have h2 := ih (fun x hx => h x (by simp [hx]))
    simp only [isum, List.sum_cons, List.length_cons] at *
    omega

/-- A shape, as the document has it. -/
def Shape (l : List Int) : Prop := l.length ≤ 8 ∧ (∀ k, k < l.length → 1 ≤ l.getD k 0 ∧ l.getD k 0 ≤ 8 ∧ (0 < k → l.getD k 0 ≤ l.getD (k-1) 0)) ∧ isum l ≤ 8
instance (l : List Int) : Decidable (Shape l) := by unfold Shape; infer_instance
def shpB (l : List Int) : Bool := decide (Shape l)

/-- A content. -/
def Content (l : List Int) : Prop := l.length ≤ 8 ∧ (∀ k, k < l.length → 0 ≤ l.getD k 0 ∧ l.getD k 0 ≤ 8) ∧ isum l ≤ 8
instance (l : List Int) : Decidable (Content l) := by unfold Content; infer_instance
def coB (l : List Int) : Bool := decide (Content l)
/-- The number in a box, 0 if there is none. -/
def atS (xss : List (List Int)) (i j : Int) : Int := if 0 ≤ i ∧ 0 ≤ j then (xss.getD i.toNat []).getD j.toNat 0 else 0
def leastS (xss : List (List Int)) (i j : Int) : Int := max 1 (max (atS xss i (j-1)) (atS xss (i-1) j + 1))
def partS (l : List Int) (i : Int) : Int := if 0 ≤ i then l.getD i.toNat 0 else 0
end Go.Proofs.Ytlnbodpdgebflaa

namespace Go.Proofs.Ytlnbodpdgebflaa
open Go.RowKit

set_option maxHeartbeats 400000 in
theorem boxes_any (v : Value) (zs : List Int) (w : World) (h : Ints w v zs) (hr : ∀ x ∈ zs, 0 ≤ x ∧ x ≤ 8) :
    Calls Try.prog 93 #[v] w fun e w' => e = .returned (.int .i64 (isum zs)) ∧ w = w' := by
  obtain ⟨ao, cap, rfl, h1, h2, hc⟩ := h.open
  clear h
  go_enter Try.func93, Try.ntmps93
  go_wp2
  go_loop [3, 8] (fun n i => ∃ k : Nat, k ≤ zs.length ∧ i = .int .i64 k ∧ n = .int .i64 (isum (zs.take k))) (fun _ i => zs.length - (intOf i).toNat)
  case atStart => exact ⟨0, Nat.zero_le _, rfl, rfl⟩
  case round =>
    obtain ⟨k, hk, rfl, rfl⟩ := hrel
    by_cases hlt : k < zs.length
    · obtain ⟨b, o, rfl, hck⟩ := hc k hlt
      clear hc
      have hb1 := isum_bd (zs.take k) (fun x hx => hr x (List.mem_of_mem_take hx))
      have hb2 : (zs.take k).length ≤ k := List.length_take_le _ _
      have hb3 := hr _ (getD_mem hlt)
      have HS : Hid (isum (zs.take (k+1)) = isum (zs.take k) + zs.getD k 0) := by
        rw [take_snoc zs k hlt, isum_snoc]; rfl
      generalize isum (zs.take k) = s at *
      generalize zs.getD k 0 = z at *
      go_wp2
      go_round
      case rel => exact ⟨k + 1, by omega, by go_num, by rw [HS.out]⟩
      case measure => simp [intOf]; omega
    · obtain rfl : k = zs.length := by omega
      go_wp2
      go_ret
      exact ⟨by simp, rfl⟩

theorem shape_no_elem {l : List Int} {k : Nat} (hk : k < l.length) (h : ¬ (1 ≤ l.getD k 0 ∧ l.getD k 0 ≤ 8 ∧ (0 < k → l.getD k 0 ≤ l.getD (k-1) 0))) : shpB l = false :=
  decide_eq_false fun hs => h (hs.2.1 k hk)

set_option maxHeartbeats 400000 in
theorem isShape_any (v : Value) (zs : List Int) (w : World) (h : Ints w v zs) :
    Calls Try.prog 92 #[v] w fun e w' => e = .returned (.bool (shpB zs)) ∧ w = w' := by
  have h0 := h
  obtain ⟨ao, cap, rfl, h1, h2, hc⟩ := h.open
  clear h
  by_cases hlen : zs.length ≤ 8
  · have hd : decide ((zs.length : Int) > 8) = false := by simp; omega
    go_enter Try.func92, Try.ntmps92
    go_wp2
    go_loop [10] (fun i => ∃ k : Nat, k ≤ zs.length ∧ i = .int .i64 k ∧ ∀ j, j < k → 1 ≤ zs.getD j 0 ∧ zs.getD j 0 ≤ 8 ∧ (0 < j → zs.getD j 0 ≤ zs.getD (j-1) 0)) (fun i => zs.length - (intOf i).toNat)
    case atStart => exact ⟨0, Nat.zero_le _, rfl, fun j hj => absurd hj (by omega)⟩
    case round =>
      obtain ⟨k, hk, rfl, hall⟩ := hrel
      by_cases hlt : k < zs.length
      · obtain ⟨b, o, rfl, hck⟩ := hc k hlt
        have hpr : 0 < k → w.cell? ⟨b, o + (k - 1), none⟩ = some (.int .i64 (zs.getD (k-1) 0)) := fun h => by
          obtain ⟨b', o', e, hc'⟩ := hc (k-1) (by omega)
          obtain ⟨rfl, rfl⟩ : b = b' ∧ o = o' := by simpa using e
          exact hc'
        clear hc
        have HF : Hid (∀ hbad : ¬ (1 ≤ zs.getD k 0 ∧ zs.getD k 0 ≤ 8 ∧ (0 < k → zs.getD k 0 ≤ zs.getD (k-1) 0)), shpB zs = false) := fun hbad => shape_no_elem hlt hbad
        have HA : Hid (∀ j, j < k → 1 ≤ zs.getD j 0 ∧ zs.getD j 0 ≤ 8 ∧ (0 < j → zs.getD j 0 ≤ zs.getD (j-1) 0)) := hall
        clear hall
        have HZ : Hid (∀ hgood : (1 ≤ zs.getD k 0 ∧ zs.getD k 0 ≤ 8 ∧ (0 < k → zs.getD k 0 ≤ zs.getD (k-1) 0)), ∀ j, j < k+1 → 1 ≤ zs.getD j 0 ∧ zs.getD j 0 ≤ 8 ∧ (0 < j → zs.getD j 0 ≤ zs.getD (j-1) 0)) := by
          intro hg j hj
          by_cases e : j = k
          · subst e; exact hg
          · exact HA.out j (by omega)
        have hidx : 0 < k → ((k : Int) - 1).toNat = k - 1 := by omega
        generalize zs.getD k 0 = z at *
        generalize zs.getD (k-1) 0 = y at *
        rcases Nat.eq_zero_or_pos k with rfl | hpos
        · clear hpr hidx
          simp only [Nat.add_zero] at hck
          go_wp2
          all_goals first
            | (go_ret; exact ⟨ret_bool (HF.out (by omega)).symm, rfl⟩)
            | (go_round
               case rel => exact ⟨0 + 1, by omega, by go_num, HZ.out ⟨by omega, by omega, by omega⟩⟩
               case measure => simp [intOf]; omega)
        · have hpr := hpr hpos
          have hidx := hidx hpos
          go_wp2
          all_goals first
            | (go_ret; exact ⟨ret_bool (HF.out (by omega)).symm, rfl⟩)
            | (go_round
               case rel => exact ⟨k + 1, by omega, by go_num, HZ.out ⟨by omega, by omega, by omega⟩⟩
               case measure => simp [intOf]; omega)
      · obtain rfl : k = zs.length := by omega
        clear hc
        have hm : ∀ x ∈ zs, 0 ≤ x ∧ x ≤ 8 := fun x hx => by
          obtain ⟨j, hj, rfl⟩ := mem_getD hx
          have := hall j hj
          omega
        have HS : Hid (shpB zs = decide (isum zs ≤ 8)) := by
          show decide _ = decide _
          by_cases e : isum zs ≤ 8
          · simp only [e, decide_true, decide_eq_true_eq]; exact ⟨hlen, hall, e⟩
          · simp only [e, decide_false, decide_eq_false_iff_not]; exact fun h => e h.2.2
        clear hall
        go_wp2_with (go_at_call 93; refine (boxes_any _ zs _ h0 hm).mono ?_; rintro e w' ⟨rfl, rfl⟩)
        go_ret
        exact ⟨ret_bool HS.out.symm, rfl⟩
  · have hF : shpB zs = false := decide_eq_false fun h => hlen h.1
    have HF : Hid (shpB zs = false) := hF
    clear hF hc
    go_enter Try.func92, Try.ntmps92
    go_wp2
    go_ret
    exact ⟨ret_bool HF.out.symm, rfl⟩
end Go.Proofs.Ytlnbodpdgebflaa

namespace Go.Proofs.Ytlnbodpdgebflaa
open Go.RowKit

set_option maxHeartbeats 400000 in
theorem part_any (v : Value) (zs : List Int) (i : Nat) (w : World) (h : Ints w v zs) :
    Calls Try.prog 113 #[v, .int .i64 i] w fun e w' => e = .returned (.int .i64 (zs.getD i 0)) ∧ w = w' := by
  obtain ⟨ao, cap, rfl, h1, h2, hc⟩ := h.open
  clear h
  by_cases hlt : i < zs.length
  · obtain ⟨b, o, rfl, hck⟩ := hc i hlt
    clear hc
    generalize zs.getD i 0 = z at *
    go_enter Try.func113, Try.ntmps113
    go_wp2
    go_ret
    exact ⟨rfl, rfl⟩
  · have e : zs.getD i 0 = 0 := getD_over (by omega)
    rw [e]
    clear hc e
    go_enter Try.func113, Try.ntmps113
    go_wp2
    go_ret
    exact ⟨rfl, rfl⟩

set_option maxHeartbeats 400000 in
theorem at_any (v : Value) (xss : List (List Int)) (i j : Int) (w : World) (h : IntRows w v xss) (hi : -9223372036854775808 ≤ i) (hj : -9223372036854775808 ≤ j) :
    Calls Try.prog 117 #[v, .int .i64 i, .int .i64 j] w fun e w' => e = .returned (.int .i64 (atS xss i j)) ∧ w = w' := by
  obtain ⟨ao, cap, rfl, h1, h2, hc⟩ := h.open
  clear h
  by_cases c1 : i < 0
  · have e : atS xss i j = 0 := if_neg (by omega)
    rw [e]
    clear hc e
    go_enter Try.func117, Try.ntmps117
    go_wp2
    go_ret
    exact ⟨rfl, rfl⟩
  · obtain ⟨i, rfl⟩ := Int.eq_ofNat_of_zero_le (show 0 ≤ i by omega)
    by_cases c2 : i < xss.length
    · by_cases c3 : j < 0
      · have e : atS xss i j = 0 := if_neg (by omega)
        rw [e]
        clear hc e
        go_enter Try.func117, Try.ntmps117
        go_wp2
        go_ret
        exact ⟨rfl, rfl⟩
      · obtain ⟨j, rfl⟩ := Int.eq_ofNat_of_zero_le (show 0 ≤ j by omega)
        obtain ⟨b, o, u, rfl, hck, hu⟩ := hc i (xss[i]) (by simp [c2])
        obtain ⟨ao', cap', rfl, h1', h2', hc'⟩ := hu.open
        clear hc hu
        by_cases c4 : j < (xss[i]).length
        · obtain ⟨b', o', rfl, hck'⟩ := hc' j c4
          have e : atS xss i j = (xss[i]).getD j 0 := by simp [atS, c2]
          rw [e]
          clear hc' e
          generalize (xss[i]).getD j 0 = z at *
          generalize (xss[i]).length = n at *
          go_enter Try.func117, Try.ntmps117
          go_wp2
          go_ret
          exact ⟨rfl, rfl⟩
        · have e : atS xss i j = 0 := by simp [atS, c2, show (xss[i]).length ≤ j by omega]
          rw [e]
          clear hc' e
          generalize (xss[i]).length = n at *
          go_enter Try.func117, Try.ntmps117
          go_wp2
          go_ret
          exact ⟨rfl, rfl⟩
    · have e : atS xss i j = 0 := by simp [atS, show xss.length ≤ i by omega]
      rw [e]
      clear hc e
      go_enter Try.func117, Try.ntmps117
      go_wp2
      go_ret
      exact ⟨rfl, rfl⟩

set_option maxHeartbeats 400000 in
theorem least_any (v : Value) (xss : List (List Int)) (i j : Int) (w : World) (h : IntRows w v xss) (hi : 0 ≤ i) (hi' : i ≤ 100) (hj : 0 ≤ j) (hj' : j ≤ 100)
    (hb : ∀ xs ∈ xss, ∀ x ∈ xs, 0 ≤ x ∧ x ≤ 8) :
    Calls Try.prog 115 #[v, .int .i64 i, .int .i64 j] w fun e w' => e = .returned (.int .i64 (leastS xss i j)) ∧ w = w' := by
  have ha : ∀ i j, 0 ≤ atS xss i j ∧ atS xss i j ≤ 8 := by
    intro i j
    unfold atS
    split
    · by_cases c : i.toNat < xss.length
      · by_cases d : j.toNat < (xss.getD i.toNat []).length
        · exact hb _ (show xss.getD i.toNat [] ∈ xss by simp [List.getD, c]) _ (getD_mem d)
        · rw [getD_over (by omega)]; omega
      · rw [getD_over (l := xss) (by omega)]; simp
    · omega
  have h1 := ha i (j-1)
  have h2 := ha (i-1) j
  have HL : Hid (leastS xss i j = max 1 (max (atS xss i (j-1)) (atS xss (i-1) j + 1))) := rfl
  clear ha
  go_enter Try.func115, Try.ntmps115
  go_wp2_with fail
  refine (at_any v xss i (j-1) w h (by omega) (by omega)).mono ?_
  rintro e w' ⟨rfl, rfl⟩
  go_wp2_with fail
  refine (at_any v xss (i-1) j w h (by omega) (by omega)).mono ?_
  rintro e w' ⟨rfl, rfl⟩
  generalize atS xss i (j-1) = a at *
  generalize atS xss (i-1) j = b at *
  go_wp2
  all_goals (go_ret; exact ⟨ret_int (by rw [HL.out]; omega), rfl⟩)

set_option maxHeartbeats 400000 in
theorem isContent_any (v : Value) (zs : List Int) (w : World) (h : Ints w v zs) :
    Calls Try.prog 107 #[v] w fun e w' => e = .returned (.bool (coB zs)) ∧ w = w' := by
  have h0 := h
  obtain ⟨ao, cap, rfl, h1, h2, hc⟩ := h.open
  clear h
  by_cases hlen : zs.length ≤ 8
  · go_enter Try.func107, Try.ntmps107
    go_wp2
    go_loop [10] (fun i => ∃ k : Nat, k ≤ zs.length ∧ i = .int .i64 k ∧ ∀ j, j < k → 0 ≤ zs.getD j 0 ∧ zs.getD j 0 ≤ 8) (fun i => zs.length - (intOf i).toNat)
    case atStart => exact ⟨0, Nat.zero_le _, rfl, fun j hj => absurd hj (by omega)⟩
    case round =>
      obtain ⟨k, hk, rfl, hall⟩ := hrel
      by_cases hlt : k < zs.length
      · obtain ⟨b, o, rfl, hck⟩ := hc k hlt
        clear hc
        have HF : Hid (∀ hbad : ¬ (0 ≤ zs.getD k 0 ∧ zs.getD k 0 ≤ 8), coB zs = false) := fun hbad => decide_eq_false fun hs => hbad (hs.2.1 k hlt)
        have HZ : Hid (∀ hgood : (0 ≤ zs.getD k 0 ∧ zs.getD k 0 ≤ 8), ∀ j, j < k+1 → 0 ≤ zs.getD j 0 ∧ zs.getD j 0 ≤ 8) := by
          intro hg j hj
          by_cases e : j = k
          · subst e; exact hg
          · exact hall j (by omega)
        clear hall
        generalize zs.getD k 0 = z at *
        go_wp2
        all_goals first
          | (go_ret; exact ⟨ret_bool (HF.out (by omega)).symm, rfl⟩)
          | (go_round
             case rel => exact ⟨k + 1, by omega, by go_num, HZ.out ⟨by omega, by omega⟩⟩
             case measure => simp [intOf]; omega)
      · obtain rfl : k = zs.length := by omega
        clear hc
        have hm : ∀ x ∈ zs, 0 ≤ x ∧ x ≤ 8 := fun x hx => by
          obtain ⟨j, hj, rfl⟩ := mem_getD hx
          exact hall j hj
        have HS : Hid (coB zs = decide (isum zs ≤ 8)) := by
          show decide _ = decide _
          by_cases e : isum zs ≤ 8
          · simp only [e, decide_true, decide_eq_true_eq]; exact ⟨hlen, hall, e⟩
          · simp only [e, decide_false, decide_eq_false_iff_not]; exact fun h => e h.2.2
        clear hall
        go_wp2_with (go_at_call 93; refine (boxes_any _ zs _ h0 hm).mono ?_; rintro e w' ⟨rfl, rfl⟩)
        go_ret
        exact ⟨ret_bool HS.out.symm, rfl⟩
  · have HF : Hid (coB zs = false) := decide_eq_false fun h => hlen h.1
    clear hc
    go_enter Try.func107, Try.ntmps107
    go_wp2
    go_ret
    exact ⟨ret_bool HF.out.symm, rfl⟩
end Go.Proofs.Ytlnbodpdgebflaa

namespace Go.Proofs.Ytlnbodpdgebflaa
open Go.RowKit

theorem hidIt {p : Prop} (h : p) : Hid p := h

/-- The blocks of a search. -/
structure Fb where
  bO : Nat
  bV : Nat
  bR : Nat
  bN : Nat
  bL : Nat
  rb : Nat
  gs : List Nat
  caps : List Nat
  vo : Value
  fv : Value
  w0 : World

def ptS (b : Nat) : Value := .pointer (some ⟨b, 0, none⟩)
def Fb.caught (f : Fb) : Array Value := #[ptS f.bO, ptS f.bV, ptS f.bR, ptS f.bN, ptS f.bL]
def Fb.rowVal (f : Fb) (rs : List (List Int)) (i : Nat) : Value := .slice (some ⟨f.gs.getD i 0, 0, none⟩) (rs.getD i []).length (f.caps.getD i 0)
def Fb.rowsVal (f : Fb) : Value := .slice (some ⟨f.rb, 0, none⟩) f.gs.length f.gs.length
def Fb.mem (f : Fb) (k : Nat) : Prop := k = f.bO ∨ k = f.bV ∨ k = f.bR ∨ k = f.bN ∨ k = f.bL ∨ k = f.rb ∨ k ∈ f.gs

/-- The search's own memory: rows as they stand, how often each number is left. -/
structure FillSt (f : Fb) (w : World) (rs : List (List Int)) (left : List Int) : Prop where
  hO : w.heap[f.bO]? = some (.cells #[f.vo] 24 (0, 0))
  hV : w.heap[f.bV]? = some (.cells #[f.fv] 98 (0, 0))
  hR : w.heap[f.bR]? = some (.cells #[f.rowsVal] 33 (0, 0))
  hN : w.heap[f.bN]? = some (.cells #[.func (.func 114) #[] f.caught] 123 (0, 0))
  hL : w.heap[f.bL]? = some (.cells (ints left).toArray 113 (0, 0))
  hll : left.length = 8
  hrb : w.heap[f.rb]? = some (.cells ((List.range f.gs.length).map (f.rowVal rs)).toArray 24 (0, 0))
  hgs : ∀ i, i < f.gs.length → ∃ sp : List Value, (rs.getD i []).length + sp.length = f.caps.getD i 0 ∧ w.heap[f.gs.getD i 0]? = some (.cells ((ints (rs.getD i [])) ++ sp).toArray 3 (0, 0))
  hrs : rs.length = f.gs.length
  hnd : f.gs.Nodup
  hne : f.bO ≠ f.rb
  hle : ∀ x ∈ left, 0 ≤ x ∧ x ≤ 8
  hnum : ∀ xs ∈ rs, ∀ x ∈ xs, 0 ≤ x ∧ x ≤ 8
  hbel : Below f.w0.heap.size f.w0 w
  hmem : ∀ k, f.mem k → f.w0.heap.size ≤ k

theorem FillSt.rows {f : Fb} {w : World} {rs : List (List Int)} {left : List Int} (h : FillSt f w rs left) (hn : f.gs.length ≤ 100) (hc : ∀ c ∈ f.caps, c ≤ 100) : IntRows w f.rowsVal rs := by
  refine ⟨(List.range f.gs.length).map (f.rowVal rs), ?_, by simp [h.hrs], ?_⟩
  · refine ⟨_, f.gs.length, ?_, by simp, by simp; omega, by unfold maxLen; omega, .inr ⟨f.rb, 0, rfl, lt_of_block h.hrb, ?_⟩⟩
    · simp [Fb.rowsVal]
    · intro k x hk
      simp only [World.cell?, h.hrb, Nat.zero_add]
      simpa using hk
  · intro i u xs hu hx
    have hi : i < f.gs.length := by
      have := (List.getElem?_eq_some_iff.1 hu).1
      simpa using this
    obtain ⟨sp, h1, h2⟩ := h.hgs i hi
    have e : rs.getD i [] = xs := by simp [List.getD, hx]
    have eg : f.gs.getD i 0 = f.gs[i] := by simp [List.getD, hi]
    rw [eg] at h2
    simp [hi, Fb.rowVal] at hu
    subst hu
    have e' : rs[i]?.getD [] = xs := by simp [hx]
    rw [e] at h1 h2
    rw [e']
    have hcap : f.caps.getD i 0 ≤ 100 := by
      by_cases c : i < f.caps.length
      · exact hc _ (by simp [List.getD, c])
      · rw [getD_over (by omega)]; omega
    refine ⟨⟨_, _, by rw [ints_length], by rw [ints_length]; simp [List.getD] at h1 ⊢; omega, by rw [ints_length]; omega, by unfold maxLen; simp [List.getD] at hcap ⊢; omega, .inr ⟨_, 0, rfl, ?_, ?_⟩⟩, ?_⟩
    · exact lt_of_block h2
    · intro k x hk
      have hlt := (List.getElem?_eq_some_iff.1 hk).1
      simp only [World.cell?, h2, Nat.zero_add]
      simp [List.getElem?_append_left hlt, hk]
    · intro x hx'
      have := h.hnum xs (List.mem_of_getElem? hx) x hx'
      unfold I64; omega

theorem FillSt.mod {f : Fb} {w w' : World} {rs : List (List Int)} {left : List Int} {S : Nat → Prop} (h : FillSt f w rs left) (hm : Mod S w w') (hd : ∀ k, S k → ¬ f.mem k) (hB : ∀ k, S k → f.w0.heap.size ≤ k) :
    FillSt f w' rs left := by
  have key : ∀ k o, f.mem k → w.heap[k]? = some o → w'.heap[k]? = some o := fun k o hk ho => (hm.block k (lt_of_block ho) fun hs => hd k hs hk).trans ho
  exact { hO := key _ _ (.inl rfl) h.hO, hV := key _ _ (.inr (.inl rfl)) h.hV, hR := key _ _ (.inr (.inr (.inl rfl))) h.hR, hN := key _ _ (.inr (.inr (.inr (.inl rfl)))) h.hN,
          hL := key _ _ (.inr (.inr (.inr (.inr (.inl rfl))))) h.hL, hll := h.hll, hrb := key _ _ (.inr (.inr (.inr (.inr (.inr (.inl rfl)))))) h.hrb,
          hgs := fun i hi => by
            obtain ⟨sp, h1, h2⟩ := h.hgs i hi
            exact ⟨sp, h1, key _ _ (.inr (.inr (.inr (.inr (.inr (.inr (by simp [List.getD, hi]))))))) h2⟩,
          hrs := h.hrs, hnd := h.hnd, hne := h.hne, hle := h.hle, hnum := h.hnum, hmem := h.hmem,
          hbel := h.hbel.trans (hm.below h.hbel.size hB) }

theorem FillSt.memlt {f : Fb} {w : World} {rs : List (List Int)} {left : List Int} (h : FillSt f w rs left) {k : Nat} (hk : f.mem k) : k < w.heap.size := by
  rcases hk with rfl | rfl | rfl | rfl | rfl | rfl | hk
  · exact lt_of_block h.hO
  · exact lt_of_block h.hV
  · exact lt_of_block h.hR
  · exact lt_of_block h.hN
  · exact lt_of_block h.hL
  · exact lt_of_block h.hrb
  · obtain ⟨i, hi, rfl⟩ := List.mem_iff_getElem.1 hk
    obtain ⟨sp, _, h2⟩ := h.hgs i hi
    have : f.gs.getD i 0 = f.gs[i] := by simp [List.getD, hi]
    exact this ▸ lt_of_block h2

theorem FillSt.rowCell {f : Fb} {w : World} {rs : List (List Int)} {left : List Int} (h : FillSt f w rs left) {i : Nat} (hi : i < f.gs.length) :
    w.cell? ⟨f.rb, i, none⟩ = some (f.rowVal rs i) ∧ w.frozen? ⟨f.rb, i, none⟩ = false := by
  simp [World.cell?, World.frozen?, h.hrb, hi]

/-- What the search hands to visit, in its order: the rows from row i on are still to be filled. -/
def srch (caps : List Nat) : Nat → Nat → List (List Int) → List Int → List (List (List Int))
  | 0, _, _, _ => []
  | fuel + 1, i, rs, left =>
    if i = caps.length then [rs]
    else if (rs.getD i []).length = caps.getD i 0 then srch caps fuel (i + 1) rs left
    else (List.range' (leastS rs i (rs.getD i []).length).toNat (9 - (leastS rs i (rs.getD i []).length).toNat)).flatMap fun n =>
      if left.getD (n - 1) 0 = 0 then [] else srch caps fuel i (rs.set i (rs.getD i [] ++ [(n : Int)])) (left.set (n - 1) (left.getD (n - 1) 0 - 1))

def nboxes (rs : List (List Int)) : Nat := (rs.map List.length).sum

/-- What a search's visit is good for. -/
structure Visit (f : Fb) (I : List (List (List Int)) → World → (Nat → Prop) → Prop) (fid : Nat) (fcap : Array Value) : Prop where
  fv : f.fv = .func (.func fid) #[] fcap
  enters : ∀ args w, (callFunc fid args).run Try.prog w = .ok (Next.enter fid args) w
  keeps : ∀ acc w w' fp, I acc w fp → (∀ k, fp k → w'.heap[k]? = w.heap[k]?) → w.heap.size ≤ w'.heap.size → I acc w' fp
  fits : ∀ acc w fp, I acc w fp → ∀ k, fp k → f.w0.heap.size ≤ k ∧ k < w.heap.size
  call : ∀ acc w fp rs left, FillSt f w rs left → I acc w fp → (∀ k, fp k → ¬ f.mem k) → acc.length < 16777216 →
    Calls Try.prog fid (#[f.rowsVal] ++ fcap) w fun e w' => e = .returned (.tuple #[]) ∧ ∃ fp', I (acc ++ [rs]) w' fp' ∧ Mod fp w w' ∧ ∀ k, fp' k → fp k ∨ w.heap.size ≤ k

/-- What a call of the search leaves. -/
def NextPost (f : Fb) (I : List (List (List Int)) → World → (Nat → Prop) → Prop) (rs : List (List Int)) (left : List Int) (acc : List (List (List Int))) (w : World) (fp : Nat → Prop) (e : Ending) (w' : World) : Prop :=
  e = .returned (.tuple #[]) ∧ ∃ fp', FillSt f w' rs left ∧ I acc w' fp' ∧ (∀ k, fp' k → ¬ f.mem k) ∧ Mod (fun k => f.mem k ∨ fp k) w w' ∧ ∀ k, fp' k → fp k ∨ w.heap.size ≤ k
end Go.Proofs.Ytlnbodpdgebflaa

namespace Go.Proofs.Ytlnbodpdgebflaa
open Go.RowKit

set_option maxHeartbeats 1000000 in
theorem next_done (f : Fb) (I : List (List (List Int)) → World → (Nat → Prop) → Prop) (fid : Nat) (fcap : Array Value) (hv : Visit f I fid fcap)
    (hvo : Ints f.w0 f.vo (f.caps.map (fun (c : Nat) => (c : Int)))) (fuel : Nat)
    (rs : List (List Int)) (left : List Int) (acc : List (List (List Int))) (w : World) (fp : Nat → Prop) (hs : FillSt f w rs left) (hI : I acc w fp) (hd : ∀ k, fp k → ¬ f.mem k) (hM : acc.length < 16777216) :
    Calls Try.prog 114 (#[.int .i64 f.caps.length] ++ f.caught) w (NextPost f I rs left (acc ++ srch f.caps (fuel + 1) f.caps.length rs left) w fp) := by
  have hvo' := hvo.below hs.hbel (Nat.le_refl _)
  obtain ⟨ao, cap, he, h1, h2, hc⟩ := hvo'.open
  simp only [List.length_map] at he h1 h2
  have cO := cell_of_one hs.hO
  have cV := cell_of_one hs.hV
  have cR := cell_of_one hs.hR
  rw [he] at cO
  rw [hv.fv] at cV
  have hen := hv.enters
  have HF := hidIt (hv.fits acc w fp hI)
  have hcall := hv.call acc w fp rs left hs hI hd hM
  clear hM
  have e1 : srch f.caps (fuel + 1) f.caps.length rs left = [rs] := by simp [srch]
  rw [e1]
  have HC := hidIt hcall
  have HS := hidIt hs
  clear hvo hvo' hcall hs hc e1 he hv
  unfold Fb.caught ptS
  go_enter Try.func114, Try.ntmps114
  go_wp2_with fail
  refine HC.out.mono ?_
  rintro e w' ⟨rfl, hq⟩
  have HQ := hidIt hq
  clear hq cO cV cR hen hI
  go_wp2
  go_end0
  obtain ⟨fp', q1, q2, q3⟩ := HQ.out
  refine ⟨rfl, fp', HS.out.mod q2 hd (fun k hk => (HF.out k hk).1), q1, ?_, q2.mono fun k hk => .inr hk, q3⟩
  intro k hk hm
  rcases q3 k hk with h | h
  · exact hd k h hm
  · have := HS.out.memlt hm
    omega

set_option maxHeartbeats 1000000 in
theorem next_full (f : Fb) (R : Ending → World → Prop) (hR : ∀ e w', R e w' → e = .returned (.tuple #[])) (hcl : f.caps.length = f.gs.length) (hvo : Ints f.w0 f.vo (f.caps.map (fun (c : Nat) => (c : Int))))
    (rs : List (List Int)) (left : List Int) (w : World) (hs : FillSt f w rs left) (i : Nat) (hi : i < f.gs.length) (hn : f.gs.length ≤ 100) (hfull : (rs.getD i []).length = f.caps.getD i 0)
    (hnext : Calls Try.prog 114 (#[.int .i64 ((i : Int) + 1)] ++ f.caught) w R) :
    Calls Try.prog 114 (#[.int .i64 i] ++ f.caught) w R := by
  have hvo' := hvo.below hs.hbel (Nat.le_refl _)
  obtain ⟨ao, cap, he, h1, h2, hc⟩ := hvo'.open
  simp only [List.length_map] at he h1 h2
  obtain ⟨b, o, rfl, hck⟩ := hc i (by simp; omega)
  have e0 : (List.map (fun (c : Nat) => (c : Int)) f.caps).getD i 0 = (f.caps.getD i 0 : Nat) := by
    have : i < f.caps.length := by omega
    simp [List.getD, this]
  rw [e0] at hck
  have cO := cell_of_one hs.hO
  have cR := cell_of_one hs.hR
  have cN := cell_of_one hs.hN
  obtain ⟨cRow, _⟩ := hs.rowCell hi
  rw [he] at cO
  unfold Fb.rowVal at cRow
  rw [hfull] at cRow
  unfold Fb.rowsVal at cR
  have HN := hidIt hnext
  have hcc : (f.caught.size) = 5 := rfl
  clear hvo hvo' hc e0 hnext
  generalize f.caps.getD i 0 = c at *
  generalize f.gs.getD i 0 = g at *
  rw [hcl] at cO h1 h2
  generalize f.gs.length = n at *
  unfold Fb.caught ptS at *
  clear hs hfull hcc he hcl
  have hne : ((i : Int) == (n : Int)) = false := by simp; omega
  go_enter Try.func114, Try.ntmps114
  go_wp2_with fail
  refine HN.out.mono ?_
  intro e w' hq
  obtain rfl := hR e w' hq
  have HQ := hidIt hq
  clear hq cO cR cN cRow hck
  go_wp2
  go_end0
  exact HQ.out
end Go.Proofs.Ytlnbodpdgebflaa

namespace Go.Proofs.Ytlnbodpdgebflaa
open Go.RowKit

/-- One number's part of the search. -/
def srchStep (caps : List Nat) (fuel i : Nat) (rs : List (List Int)) (left : List Int) (n : Nat) : List (List (List Int)) :=
  if left.getD (n - 1) 0 = 0 then [] else srch caps fuel i (rs.set i (rs.getD i [] ++ [(n : Int)])) (left.set (n - 1) (left.getD (n - 1) 0 - 1))

def LoopInv (f : Fb) (I : List (List (List Int)) → World → (Nat → Prop) → Prop) (fuel i : Nat) (rs : List (List Int)) (left : List Int) (acc : List (List (List Int))) (w : World) (fp : Nat → Prop) (lo c : Nat) (wr : World) : Prop :=
  ∃ fp', FillSt f wr rs left ∧ I (acc ++ (List.range' lo (c - lo)).flatMap (srchStep f.caps fuel i rs left)) wr fp' ∧ (∀ k, fp' k → ¬ f.mem k) ∧ Mod (fun k => f.mem k ∨ fp k) w wr ∧ ∀ k, fp' k → fp k ∨ w.heap.size ≤ k

theorem FillSt.leftCell {f : Fb} {w : World} {rs : List (List Int)} {left : List Int} (h : FillSt f w rs left) {k : Nat} (hk : k < 8) :
    w.cell? ⟨f.bL, k, none⟩ = some (.int .i64 (left.getD k 0)) ∧ w.frozen? ⟨f.bL, k, none⟩ = false := by
  have := h.hll
  simp [World.cell?, World.frozen?, h.hL, ints, show k < left.length by omega]

theorem FillSt.spare {f : Fb} {w : World} {rs : List (List Int)} {left : List Int} (h : FillSt f w rs left) {i : Nat} (hi : i < f.gs.length) {k : Nat} (hk : k < f.caps.getD i 0) :
    (w.cell? ⟨f.gs.getD i 0, k, none⟩).isSome = true ∧ w.frozen? ⟨f.gs.getD i 0, k, none⟩ = false := by
  obtain ⟨sp, h1, h2⟩ := h.hgs i hi
  simp only [World.cell?, World.frozen?, h2]
  have : k < (ints (rs.getD i []) ++ sp).length := by rw [List.length_append, ints_length]; omega
  generalize ints (rs.getD i []) ++ sp = l at *
  simp [this]

theorem range_step {lo c : Nat} (h : lo ≤ c) : List.range' lo (c + 1 - lo) = List.range' lo (c - lo) ++ [c] := by
  rw [show c + 1 - lo = (c - lo) + 1 by omega, List.range'_1_concat, show lo + (c - lo) = c by omega]

theorem heap_set_at {w : World} {b k : Nat} {cs : Array Value} {t : TypeId} {fr : Nat × Nat} (h : w.heap[b]? = some (.cells cs t fr)) (v : Value) :
    (w.setCell ⟨b, k, none⟩ v).heap[b]? = some (.cells (cs.setIfInBounds k v) t fr) := by
  simp [World.setCell, Array.getElem?_modify, h]

theorem types_ne {w : World} {a b : Nat} {cs cs' : Array Value} {t t' : TypeId} {fr fr' : Nat × Nat} (h : w.heap[a]? = some (.cells cs t fr)) (h' : w.heap[b]? = some (.cells cs' t' fr')) (ht : t ≠ t') : a ≠ b := by
  intro e; subst e
  rw [h] at h'
  simp at h'
  exact ht h'.2.1

/-- how often a number is left is turned. -/
theorem FillSt.setLeft {f : Fb} {w : World} {rs : List (List Int)} {left : List Int} (h : FillSt f w rs left) (k : Nat) (x : Int) (hx : 0 ≤ x ∧ x ≤ 8) :
    FillSt f (w.setCell ⟨f.bL, k, none⟩ (.int .i64 x)) rs (left.set k x) := by
  have key : ∀ b o, b ≠ f.bL → w.heap[b]? = some o → (w.setCell ⟨f.bL, k, none⟩ (.int .i64 x)).heap[b]? = some o := fun b o hb ho => by
    rw [Below.heap_setCell _ _ _ _ hb]; exact ho
  exact { hO := key _ _ (types_ne h.hO h.hL (by decide)) h.hO, hV := key _ _ (types_ne h.hV h.hL (by decide)) h.hV, hR := key _ _ (types_ne h.hR h.hL (by decide)) h.hR,
          hN := key _ _ (types_ne h.hN h.hL (by decide)) h.hN, hrb := key _ _ (types_ne h.hrb h.hL (by decide)) h.hrb,
          hL := by rw [heap_set_at h.hL]; simp [ints, List.map_set]
          hll := by simp [h.hll],
          hgs := fun i hi => by
            obtain ⟨sp, h1, h2⟩ := h.hgs i hi
            exact ⟨sp, h1, key _ _ (types_ne h2 h.hL (by decide)) h2⟩,
          hrs := h.hrs, hnd := h.hnd, hne := h.hne, hnum := h.hnum, hmem := h.hmem,
          hle := fun y hy => by
            rcases List.mem_or_eq_of_mem_set hy with hy | rfl
            · exact h.hle y hy
            · exact hx
          hbel := h.hbel.setCell (h.hmem _ (.inr (.inr (.inr (.inr (.inl rfl)))))) _ }

theorem leastS_bd {xss : List (List Int)} (hb : ∀ xs ∈ xss, ∀ x ∈ xs, 0 ≤ x ∧ x ≤ 8) (i j : Int) : 1 ≤ leastS xss i j ∧ leastS xss i j ≤ 9 := by
  have ha : ∀ i j, 0 ≤ atS xss i j ∧ atS xss i j ≤ 8 := by
    intro i j
    unfold atS
    split
    · by_cases c : i.toNat < xss.length
      · by_cases d : j.toNat < (xss.getD i.toNat []).length
        · exact hb _ (show xss.getD i.toNat [] ∈ xss by simp [List.getD, c]) _ (getD_mem d)
        · rw [getD_over (by omega)]; omega
      · rw [getD_over (l := xss) (by omega)]; simp
    · omega
  have h1 := ha i (j-1)
  have h2 := ha (i-1) j
  unfold leastS
  omega

theorem getD_set {α : Type} (l : List α) (i j : Nat) (x d : α) (hi : i < l.length) : (l.set i x).getD j d = if i = j then x else l.getD j d := by
  by_cases e : i = j
  · subst e; simp [List.getD, hi]
  · simp [List.getD, e]

theorem _root_.List.set_getElem_self' {α : Type} (l : List (List α)) (i : Nat) (h : i < l.length) : l.set i (l.getD i []) = l := by
  simp [List.getD, h]
theorem _root_.List.set_getElem_self'' (l : List Int) (i : Nat) (h : i < l.length) : l.set i (l.getD i 0) = l := by
  simp [List.getD, h]

theorem rowVals_set (f : Fb) (rs : List (List Int)) (i : Nat) (row : List Int) (hi : i < f.gs.length) (hrs : rs.length = f.gs.length) :
    ((List.range f.gs.length).map (f.rowVal rs)).set i (.slice (some ⟨f.gs.getD i 0, 0, none⟩) row.length (f.caps.getD i 0)) = (List.range f.gs.length).map (f.rowVal (rs.set i row)) := by
  refine List.ext_getElem (by simp) fun j h1 h2 => ?_
  have hj : j < f.gs.length := by simpa using h2
  rw [List.getElem_set]
  split
  · rename_i e; subst e
    have e3 : (rs.set i row).getD i [] = row := by rw [getD_set _ _ _ _ _ (by omega), if_pos rfl]
    simp only [List.getElem_map, List.getElem_range, Fb.rowVal]
    rw [e3]
  · rename_i e
    have e3 : (rs.set i row).getD j [] = rs.getD j [] := by rw [getD_set _ _ _ _ _ (by omega), if_neg e]
    simp only [List.getElem_map, List.getElem_range, Fb.rowVal]
    rw [e3]

/-- one row is turned. -/
theorem FillSt.turnRow {f : Fb} {w w' : World} {rs : List (List Int)} {left : List Int} (h : FillSt f w rs left) (i : Nat) (hi : i < f.gs.length) (row : List Int) (sp' : List Value)
    (hlen : row.length + sp'.length = f.caps.getD i 0) (hnum : ∀ x ∈ row, 0 ≤ x ∧ x ≤ 8)
    (hrest : ∀ k, f.mem k → k ≠ f.rb → k ≠ f.gs.getD i 0 → w'.heap[k]? = w.heap[k]?)
    (hrb : w'.heap[f.rb]? = some (.cells (((List.range f.gs.length).map (f.rowVal rs)).set i (.slice (some ⟨f.gs.getD i 0, 0, none⟩) row.length (f.caps.getD i 0))).toArray 24 (0, 0)))
    (hg : w'.heap[f.gs.getD i 0]? = some (.cells (ints row ++ sp').toArray 3 (0, 0))) (hbel : Below f.w0.heap.size w w') :
    FillSt f w' (rs.set i row) left := by
  obtain ⟨sp, hl0, hg0⟩ := h.hgs i hi
  have key : ∀ b o (t : TypeId) (cs : Array Value) (fr : Nat × Nat), f.mem b → b ≠ f.rb → w.heap[b]? = some o → o = .cells cs t fr → t ≠ 3 → w'.heap[b]? = some o := fun b o t cs fr hb hne ho hot ht => by
    rw [hrest b hb hne (types_ne (hot ▸ ho) hg0 ht)]; exact ho
  refine { hO := key _ _ _ _ _ (.inl rfl) h.hne h.hO rfl (by decide), hV := key _ _ _ _ _ (.inr (.inl rfl)) (types_ne h.hV h.hrb (by decide)) h.hV rfl (by decide),
           hR := key _ _ _ _ _ (.inr (.inr (.inl rfl))) (types_ne h.hR h.hrb (by decide)) h.hR rfl (by decide), hN := key _ _ _ _ _ (.inr (.inr (.inr (.inl rfl)))) (types_ne h.hN h.hrb (by decide)) h.hN rfl (by decide),
           hL := key _ _ _ _ _ (.inr (.inr (.inr (.inr (.inl rfl))))) (types_ne h.hL h.hrb (by decide)) h.hL rfl (by decide), hll := h.hll,
           hrb := by rw [hrb, rowVals_set f rs i row hi h.hrs], hgs := fun j hj => ?_, hrs := by simp [h.hrs], hnd := h.hnd, hne := h.hne, hle := h.hle, hnum := ?_, hmem := h.hmem, hbel := h.hbel.trans hbel }
  · rw [getD_set _ _ _ _ _ (by rw [h.hrs]; exact hi)]
    by_cases e : i = j
    · subst e
      rw [if_pos rfl]
      exact ⟨sp', hlen, hg⟩
    · rw [if_neg e]
      obtain ⟨spj, h1, h2⟩ := h.hgs j hj
      refine ⟨spj, h1, ?_⟩
      rw [hrest _ (.inr (.inr (.inr (.inr (.inr (.inr (by simp [List.getD, hj]))))))) (types_ne h2 h.hrb (by decide)) ?_]
      · exact h2
      · intro he
        have e1 : f.gs.getD j 0 = f.gs[j] := by simp [List.getD, hj]
        have e2 : f.gs.getD i 0 = f.gs[i] := by simp [List.getD, hi]
        rw [e1, e2] at he
        exact e ((List.getElem_inj h.hnd).1 he.symm)
  · intro xs hxs
    rcases List.mem_or_eq_of_mem_set hxs with hxs | rfl
    · exact h.hnum xs hxs
    · exact hnum

theorem spareOne {w : World} {g len : Nat} (h : (w.cell? ⟨g, len, none⟩).isSome = true ∧ w.frozen? ⟨g, len, none⟩ = false) (x : Value) (o : Obj) :
    ∀ j, j < [x].length → ((w.drew.alloc o).cell? ⟨g, 0 + len * 1 + j, none⟩).isSome = true ∧ (w.drew.alloc o).frozen? ⟨g, 0 + len * 1 + j, none⟩ = false := by
  intro j hj
  obtain rfl : j = 0 := by simpa using hj
  have hglt : g < w.heap.size := by
    obtain ⟨v, hv⟩ := Option.isSome_iff_exists.1 h.1
    exact World.block_lt_of_cell? w _ hv
  rw [World.cell?_of_block (w := w) (Below.heap_alloc w.drew _ _ hglt), World.frozen?_of_block (w := w) (Below.heap_alloc w.drew _ _ hglt)]
  simpa using h

theorem list_getD_bd {l : List Int} (h : ∀ x ∈ l, 0 ≤ x ∧ x ≤ 8) (k : Nat) : 0 ≤ l.getD k 0 ∧ l.getD k 0 ≤ 8 := by
  by_cases c : k < l.length
  · exact h _ (getD_mem c)
  · rw [getD_over (by omega)]; omega

theorem FillSt.push {f : Fb} {w : World} {rs : List (List Int)} {left : List Int} (h : FillSt f w rs left) {i : Nat} (hi : i < f.gs.length) {c : Int} (hc : 0 ≤ c ∧ c ≤ 8) {g len cap : Nat}
    (hg : g = f.gs.getD i 0) (hlen : len = (rs.getD i []).length) (hcap : cap = f.caps.getD i 0) (hlt : len < cap) (o : Obj) :
    (((w.alloc o).drew.setCells g len [.int .i64 c]).cell? ⟨f.rb, i, none⟩ = some (.slice (some ⟨g, 0, none⟩) len cap) ∧ ((w.alloc o).drew.setCells g len [.int .i64 c]).frozen? ⟨f.rb, i, none⟩ = false) ∧
    FillSt f (((w.alloc o).drew.setCells g len [.int .i64 c]).setCell ⟨f.rb, i, none⟩ (.slice (some ⟨g, 0, none⟩) (len + 1) cap)) (rs.set i (rs.getD i [] ++ [c])) left ∧
    Mod f.mem w (((w.alloc o).drew.setCells g len [.int .i64 c]).setCell ⟨f.rb, i, none⟩ (.slice (some ⟨g, 0, none⟩) (len + 1) cap)) := by
  obtain ⟨sp, h1, h2⟩ := h.hgs i hi
  rw [← hg] at h2
  rw [← hlen, ← hcap] at h1
  have hmg : f.mem g := .inr (.inr (.inr (.inr (.inr (.inr (by rw [hg]; simp [List.getD, hi]))))))
  have hmr : f.mem f.rb := .inr (.inr (.inr (.inr (.inr (.inl rfl)))))
  have hgr : g ≠ f.rb := types_ne h2 h.hrb (by decide)
  have hglt := h.memlt hmg
  have hrlt := h.memlt hmr
  have hW : (w.alloc o).drew.setCells g len [.int .i64 c] = (w.alloc o).drew.setCell ⟨g, len, none⟩ (.int .i64 c) := rfl
  rw [hW]
  have ha : ∀ k, k < w.heap.size → (w.alloc o).drew.heap[k]? = w.heap[k]? := fun k hk => Below.heap_alloc w o k hk
  have hr1 : ((w.alloc o).drew.setCell ⟨g, len, none⟩ (.int .i64 c)).heap[f.rb]? = w.heap[f.rb]? := by
    rw [Below.heap_setCell _ _ _ _ (Ne.symm hgr)]; exact ha _ hrlt
  obtain ⟨c1, c2⟩ := h.rowCell hi
  have hmod : Mod f.mem w (((w.alloc o).drew.setCell ⟨g, len, none⟩ (.int .i64 c)).setCell ⟨f.rb, i, none⟩ (.slice (some ⟨g, 0, none⟩) (len + 1) cap)) :=
    ((((Mod.refl _ _).alloc o).drew).setCell (.inl hmg) _).setCell (.inl hmr) _
  refine ⟨⟨?_, ?_⟩, ?_, hmod⟩
  · rw [World.cell?_of_block (w := w) hr1, c1, Fb.rowVal, hg, hlen, hcap]
  · rw [World.frozen?_of_block (w := w) hr1]; exact c2
  · refine h.turnRow i hi (rs.getD i [] ++ [c]) (sp.drop 1) ?_ ?_ ?_ ?_ ?_ (hmod.below h.hbel.size h.hmem)
    · rw [List.length_append, ← hlen, ← hcap, List.length_drop]; simp; omega
    · intro x hx
      rcases List.mem_append.1 hx with hx | hx
      · have : rs.getD i [] ∈ rs := by
          have : i < rs.length := by rw [h.hrs]; exact hi
          simp [List.getD, this]
        exact h.hnum _ this x hx
      · simp at hx; subst hx; exact hc
    · intro k hk hk1 hk2
      rw [← hg] at hk2
      rw [Below.heap_setCell _ _ _ _ hk1, Below.heap_setCell _ _ _ _ hk2]
      exact ha k (h.memlt hk)
    · rw [heap_set_at (hr1.trans h.hrb), ← hg, ← hcap]
      simp [hlen]
    · rw [← hg, Below.heap_setCell _ _ _ _ hgr, heap_set_at ((ha g hglt).trans h2)]
      have e : (ints (rs.getD i []) ++ sp).set len (.int .i64 c) = ints (rs.getD i [] ++ [c]) ++ sp.drop 1 := by
        have hl : (ints (rs.getD i [])).length = len := by rw [ints_length, hlen]
        rw [List.set_append_right _ _ (by omega), hl, Nat.sub_self]
        cases sp with
        | nil => simp at h1; omega
        | cons s t => simp [ints]
      simp only [List.setIfInBounds_toArray, e]

theorem FillSt.pushR {f : Fb} {w : World} {rs : List (List Int)} {left : List Int} (h : FillSt f w rs left) {i : Nat} (hi : i < f.gs.length) (c : Int) {g len : Nat} (hg : g = f.gs.getD i 0) (o : Obj) :
    ((w.alloc o).drew.setCells g len [.int .i64 c]).cell? ⟨f.bR, 0, none⟩ = some f.rowsVal := by
  obtain ⟨sp, h1, h2⟩ := h.hgs i hi
  rw [← hg] at h2
  have hne : f.bR ≠ g := types_ne h.hR h2 (by decide)
  have hr : ((w.alloc o).drew.setCells g len [.int .i64 c]).heap[f.bR]? = w.heap[f.bR]? := by
    show ((w.alloc o).drew.setCell ⟨g, len, none⟩ (.int .i64 c)).heap[f.bR]? = _
    rw [Below.heap_setCell _ _ _ _ hne]
    exact Below.heap_alloc w o _ (lt_of_block h.hR)
  rw [World.cell?_of_block (w := w) hr]
  exact cell_of_one h.hR

/-- a row is cut back. -/
theorem FillSt.pop {f : Fb} {w : World} {rs : List (List Int)} {left : List Int} (h : FillSt f w rs left) {i : Nat} (hi : i < f.gs.length) (row : List Int) (c : Int) (hrow : rs.getD i [] = row ++ [c]) {g len cap : Nat}
    (hg : g = f.gs.getD i 0) (hlen : len = row.length) (hcap : cap = f.caps.getD i 0) :
    FillSt f (w.drew.setCell ⟨f.rb, i, none⟩ (.slice (some ⟨g, 0, none⟩) len cap)) (rs.set i row) left ∧ Mod f.mem w (w.drew.setCell ⟨f.rb, i, none⟩ (.slice (some ⟨g, 0, none⟩) len cap)) := by
  obtain ⟨sp, h1, h2⟩ := h.hgs i hi
  rw [← hg, hrow] at h2
  rw [← hcap, hrow] at h1
  have hmr : f.mem f.rb := .inr (.inr (.inr (.inr (.inr (.inl rfl)))))
  have hgr : g ≠ f.rb := types_ne h2 h.hrb (by decide)
  have hmod : Mod f.mem w (w.drew.setCell ⟨f.rb, i, none⟩ (.slice (some ⟨g, 0, none⟩) len cap)) := ((Mod.refl _ _).drew).setCell (.inl hmr) _
  refine ⟨h.turnRow i hi row (.int .i64 c :: sp) ?_ ?_ ?_ ?_ ?_ (hmod.below h.hbel.size h.hmem), hmod⟩
  · rw [← hcap]; simp at h1 ⊢; omega
  · intro x hx
    have hm : rs.getD i [] ∈ rs := by
      have : i < rs.length := by rw [h.hrs]; exact hi
      simp [List.getD, this]
    exact h.hnum _ hm x (by rw [hrow]; simp [hx])
  · intro k hk hk1 hk2
    rw [Below.heap_setCell _ _ _ _ hk1]
    rfl
  · rw [heap_set_at (w := w.drew) h.hrb, ← hg, ← hcap, hlen]
    simp
  · rw [← hg, Below.heap_setCell _ _ _ _ hgr]
    rw [show w.drew.heap[g]? = w.heap[g]? from rfl, h2]
    simp [ints]

end Go.Proofs.Ytlnbodpdgebflaa
