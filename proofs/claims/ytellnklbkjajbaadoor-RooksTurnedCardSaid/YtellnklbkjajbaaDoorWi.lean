/- isIndex, Without -/
import Derived.Test.YtellnklbkjajbaaDoorCc
namespace Go.Proofs.YtellnklbkjajbaaDoor
open Go.RowKit

def idxB (i : Int) (n : Nat) : Bool := decide (0 ≤ i ∧ i < n)
theorem isIndex_any (i : Int) (n : Nat) (w : World) : Calls Tryd.prog 62 #[.int .i64 i, .int .i64 n] w fun e w' => e = .returned (.bool (idxB i n)) ∧ w = w' := by
  by_cases h1 : 0 ≤ i
  · by_cases h2 : i < n
    · have HE : Hid (idxB i n = true) := decide_eq_true ⟨h1, h2⟩
      go_enter Tryd.func62, Tryd.ntmps62
      go_wp2
      go_ret
      exact ⟨ret_bool (by rw [HE.out]), rfl⟩
    · have HE : Hid (idxB i n = false) := decide_eq_false fun h => h2 h.2
      go_enter Tryd.func62, Tryd.ntmps62
      go_wp2
      go_ret
      exact ⟨ret_bool (by rw [HE.out]), rfl⟩
  · have HE : Hid (idxB i n = false) := decide_eq_false fun h => h1 h.1
    go_enter Tryd.func62, Tryd.ntmps62
    go_wp2
    go_ret
    exact ⟨ret_bool (by rw [HE.out]), rfl⟩

/-- A row without column j. -/
def woN (j r : Nat) : Nat := (r &&& (2 ^ j - 1)) ||| (r / 2 ^ (j + 1) * 2 ^ j)
def withoutL (bs : List Nat) (i j : Nat) : List Nat := (bs.take i ++ bs.drop (i + 1)).map (woN j)
theorem woN_lt (n j r : Nat) (hj : j < n) (hr : r < 2 ^ n) : woN j r < 2 ^ (n - 1) := by
  obtain ⟨m, rfl⟩ : ∃ m, n = m + 1 := ⟨n - 1, by omega⟩
  have hjm : j ≤ m := by omega
  obtain ⟨d, rfl⟩ : ∃ d, m = j + d := ⟨m - j, by omega⟩
  show woN j r < 2 ^ (j + d)
  have hp : 0 < 2 ^ j := Nat.two_pow_pos j
  refine Nat.or_lt_two_pow ?_ ?_
  · have h1 : 2 ^ j ≤ 2 ^ (j + d) := Nat.pow_le_pow_right (by decide) (by omega)
    have h2 : r &&& (2 ^ j - 1) ≤ 2 ^ j - 1 := Nat.and_le_right
    omega
  · have hq : r / 2 ^ (j + 1) < 2 ^ d := by
      refine Nat.div_lt_of_lt_mul ?_
      rw [← Nat.pow_add]
      rwa [show j + 1 + d = j + d + 1 by omega]
    have := Nat.mul_lt_mul_of_pos_right hq hp
    rwa [← Nat.pow_add, Nat.add_comm d j] at this
theorem withoutL_length {bs : List Nat} {i : Nat} (j : Nat) (h : i < bs.length) : (withoutL bs i j).length = bs.length - 1 := by
  simp [withoutL]; omega
theorem without_brd {n : Nat} {bs : List Nat} (h : Brd n bs) {i j : Nat} (hn : 2 ≤ n) (hi : i < n) (hj : j < n) : Brd (n - 1) (withoutL bs i j) := by
  refine ⟨by rw [withoutL_length j (by rw [h.len]; exact hi), h.len], by omega, by have := h.le; omega, fun x hx => ?_⟩
  obtain ⟨r, hr, rfl⟩ := List.mem_map.1 hx
  refine woN_lt n j r hj (h.lt r ?_)
  rcases List.mem_append.1 hr with hr | hr
  · exact List.mem_of_mem_take hr
  · exact List.mem_of_mem_drop hr

def goodW (xs : List Int) (i j : Int) : Bool := boardB xs && decide (2 ≤ xs.length) && idxB i xs.length && idxB j xs.length

set_option maxRecDepth 100000 in
set_option maxHeartbeats 1000000 in
theorem Without_bad (v : Value) (xs : List Int) (i j : Int) (w : World) (h : Ints w v xs) (hg : goodW xs i j = false) :
    Calls Tryd.prog 27 #[v, .int .i64 i, .int .i64 j] w fun e w' => e = .returned (.tuple #[.slice none 0 0, .int .i64 2]) ∧ w = w' := by
  have HB := Lib.hid (isBoard_any v xs w h)
  have HI := Lib.hid (isIndex_any i xs.length w)
  have HJ := Lib.hid (isIndex_any j xs.length w)
  obtain ⟨ao, cap, rfl, h1, _, _⟩ := h.open
  clear h
  unfold goodW at hg
  cases hb : boardB xs with
  | false =>
    rw [hb] at HB
    clear hg hb
    go_enter Tryd.func27, Tryd.ntmps27
    go_wp2_with fail
    refine HB.out.mono ?_
    rintro e w' ⟨rfl, rfl⟩
    go_wp2
    go_ret2
    exact ⟨rfl, rfl⟩
  | true =>
    rw [hb] at HB hg
    by_cases h2 : 2 ≤ xs.length
    · rw [decide_eq_true h2] at hg
      have hn2 : ¬ ((xs.length : Int) < 2) := by omega
      cases hi : idxB i xs.length with
      | false =>
        rw [hi] at HI
        clear hg hb hi
        go_enter Tryd.func27, Tryd.ntmps27
        go_wp2_with fail
        refine HB.out.mono ?_
        rintro e w' ⟨rfl, rfl⟩
        go_wp2_with fail
        refine HI.out.mono ?_
        rintro e w' ⟨rfl, rfl⟩
        go_wp2
        go_ret2
        exact ⟨rfl, rfl⟩
      | true =>
        rw [hi] at HI hg
        have hj : idxB j xs.length = false := by simpa using hg
        rw [hj] at HJ
        clear hg hb hi hj
        go_enter Tryd.func27, Tryd.ntmps27
        go_wp2_with fail
        refine HB.out.mono ?_
        rintro e w' ⟨rfl, rfl⟩
        go_wp2_with fail
        refine HI.out.mono ?_
        rintro e w' ⟨rfl, rfl⟩
        go_wp2_with fail
        refine HJ.out.mono ?_
        rintro e w' ⟨rfl, rfl⟩
        go_wp2
        go_ret2
        exact ⟨rfl, rfl⟩
    · have hn2 : ((xs.length : Int) < 2) := by omega
      clear hg hb
      go_enter Tryd.func27, Tryd.ntmps27
      go_wp2_with fail
      refine HB.out.mono ?_
      rintro e w' ⟨rfl, rfl⟩
      go_wp2
      go_ret2
      exact ⟨rfl, rfl⟩

theorem owns_set {w : World} {B g n c : Nat} {xs : List Int} (h : w.ownsRow B 3 1 (.slice (some ⟨g, 0, none⟩) n c) n (ints xs)) {k : Nat} (x : Int) :
    (w.setCell ⟨g, k, none⟩ (.int .i64 x)).ownsRow B 3 1 (.slice (some ⟨g, 0, none⟩) n c) n (ints (xs.set k x)) := by
  obtain ⟨h1, h2⟩ := h
  rcases h2 with ⟨h2, _⟩ | ⟨g', cap, cur, hv, hB, hh, hc, hm, hs, hx⟩
  · cases h2
  · simp only [Value.slice.injEq, Option.some.injEq, Addr.mk.injEq, and_true, true_and] at hv
    obtain ⟨rfl, rfl⟩ := hv
    refine ⟨by simpa [ints] using h1, .inr ⟨g, c, _, rfl, hB, heap_set_at hh _, hc, hm, by simpa using hs, ?_⟩⟩
    rw [Array.toList_setIfInBounds, List.take_set, hx]
    simp [ints, List.map_set]
theorem owns_cell {w : World} {B g n c : Nat} {xs : List Int} (h : w.ownsRow B 3 1 (.slice (some ⟨g, 0, none⟩) n c) n (ints xs)) {k : Nat} (hk : k < xs.length) :
    w.cell? ⟨g, k, none⟩ = some (.int .i64 (xs.getD k 0)) ∧ w.frozen? ⟨g, k, none⟩ = false := by
  obtain ⟨h1, h2⟩ := h
  rcases h2 with ⟨h2, _⟩ | ⟨g', cap, cur, hv, hB, hh, hc, hm, hs, hx⟩
  · cases h2
  · simp only [Value.slice.injEq, Option.some.injEq, Addr.mk.injEq, and_true, true_and] at hv
    obtain ⟨rfl, rfl⟩ := hv
    have hl : xs.length = n := by rw [ints_length] at h1; omega
    have hk' : (ints xs)[k]? = some (.int .i64 (xs.getD k 0)) := by simp [ints, hk]
    rw [← hx, List.getElem?_take_of_lt (by omega)] at hk'
    constructor
    · simp only [World.cell?, hh]
      simpa using hk'
    · simp [World.frozen?, hh]
theorem owns_some {w : World} {B n c : Nat} {ao : Option Addr} {xs : List Value} (h : w.ownsRow B 3 1 (.slice ao n c) n xs) (hn : 0 < n) : ∃ g, ao = some ⟨g, 0, none⟩ ∧ B ≤ g := by
  obtain ⟨_, h2⟩ := h
  rcases h2 with ⟨h2, h0⟩ | ⟨g', cap, cur, hv, hB, _⟩
  · omega
  · simp only [Value.slice.injEq] at hv
    exact ⟨g', hv.1, hB⟩

/-- The rows, the first k of them without column j. -/
def woPart (rs : List Nat) (j k : Nat) : List Nat := (rs.take k).map (woN j) ++ rs.drop k
theorem woPart_length (rs : List Nat) (j k : Nat) : (woPart rs j k).length = rs.length := by
  simp only [woPart, List.length_append, List.length_map, List.length_take, List.length_drop]; omega
theorem woPart_zero (rs : List Nat) (j : Nat) : woPart rs j 0 = rs := by simp [woPart]
theorem woPart_end (rs : List Nat) (j : Nat) : woPart rs j rs.length = rs.map (woN j) := by simp [woPart]
theorem woPart_get (rs : List Nat) (j k : Nat) (h : k < rs.length) : (woPart rs j k).getD k 0 = rs.getD k 0 := by
  have hl : ((rs.take k).map (woN j)).length = k := by simp; omega
  simp only [woPart, List.getD_eq_getElem?_getD]
  rw [List.getElem?_append_right (by omega), hl, Nat.sub_self, List.getElem?_drop]
  simp
theorem woPart_set (rs : List Nat) (j k : Nat) (h : k < rs.length) : (woPart rs j k).set k (woN j (rs.getD k 0)) = woPart rs j (k + 1) := by
  have hl : ((rs.take k).map (woN j)).length = k := by simp; omega
  unfold woPart
  rw [List.set_append_right _ _ (by omega), hl, Nat.sub_self, List.drop_eq_getElem_cons h, List.set_cons_zero, List.take_succ_eq_append_getElem h, List.map_append, List.append_assoc]
  simp [h]
theorem nats_set (hs : List Nat) (k x : Nat) : nats (hs.set k x) = (nats hs).set k (x : Int) := by simp [nats, List.map_set]

theorem wo_val (j r : Nat) (hj : j ≤ 6) (hr : r < 64) : bits .or .i64 (bits .and .i64 (r:Int) ((2:Int) ^ j - 1)) (IntKind.i64.wrap ((r:Int) / 2 ^ (j + 1) * 2 ^ j)) = ((woN j r : Nat) : Int) := by
  have hp := pw6 j hj
  have e1 : (2:Int) ^ j - 1 = ((2 ^ j - 1 : Nat) : Int) := by rw [← pw_cast]; omega
  have e2 : (r:Int) / 2 ^ (j + 1) * 2 ^ j = ((r / 2 ^ (j + 1) * 2 ^ j : Nat) : Int) := by rw [← pw_cast, ← pw_cast]; simp
  have h2 : r / 2 ^ (j + 1) * 2 ^ j ≤ 64 * 64 := Nat.mul_le_mul (Nat.le_trans (Nat.div_le_self _ _) (by omega)) hp.2
  have h3 : r &&& (2 ^ j - 1) ≤ r := Nat.and_le_left
  rw [e1, e2, i64_and _ _ (by omega) (by omega), i64_of (by omega) (by omega), i64_or _ _ (by omega) (by omega)]
  rfl

set_option maxRecDepth 100000 in
set_option maxHeartbeats 4000000 in
theorem Without_any (v : Value) (bs : List Nat) (n i j : Nat) (w : World) (hb : Brd n bs) (h : Nats w v bs) (hn2 : 2 ≤ n) (hi : i < n) (hj : j < n) :
    Calls Tryd.prog 27 #[v, .int .i64 i, .int .i64 j] w fun e w' => ∃ v', e = .returned (.tuple #[v', .int .i64 0]) ∧ Nats w' v' (withoutL bs i j) ∧ Below w.heap.size w w' := by
  have HB := Lib.hid (isBoard_any v (nats bs) w h)
  have HI := Lib.hid (isIndex_any i n w)
  have HJ := Lib.hid (isIndex_any j n w)
  rw [boardB_mk hb] at HB
  rw [show idxB (i:Int) n = true from decide_eq_true (by omega)] at HI
  rw [show idxB (j:Int) n = true from decide_eq_true (by omega)] at HJ
  have HN := Lib.hid h
  obtain ⟨ao, cap, rfl, h1, _, hx⟩ := h.open
  obtain ⟨b0, o0, rfl, _⟩ := hx 0 (by rw [hb.len]; omega)
  have HX := Lib.hid hx
  have hl := hb.len
  rw [hl] at h1 HB HN ⊢
  have hn6 := hb.le
  have hn2' : ¬ ((n:Int) < 2) := by omega
  have HBr := Lib.hid hb
  clear h hx hb
  go_enter Tryd.func27, Tryd.ntmps27
  go_wp2_with fail
  refine HB.out.mono ?_
  rintro e w' ⟨rfl, rfl⟩
  go_wp2_with fail
  refine HI.out.mono ?_
  rintro e w' ⟨rfl, rfl⟩
  go_wp2_with fail
  refine HJ.out.mono ?_
  rintro e w' ⟨rfl, rfl⟩
  clear HB HI HJ
  have hlr : (bs.take i ++ bs.drop (i + 1)).length = n - 1 := by simp; omega
  have cat : ∀ s2, IntsN w s2 (nats (bs.drop (i + 1))) → Calls Tryd.prog 63 #[.slice (some ⟨w.heap.size, 0, none⟩) 2 2] (w.alloc (.cells #[.slice (some ⟨b0, o0, none⟩) i cap, s2] 22)).drew fun e w' =>
      ∃ g c, e = .returned (.slice (some ⟨g, 0, none⟩) (n - 1) c) ∧ w.heap.size ≤ g ∧ w'.ownsRow w.heap.size 3 1 (.slice (some ⟨g, 0, none⟩) (n - 1) c) (n - 1) (ints (nats (bs.take i ++ bs.drop (i + 1)))) ∧ Below w.heap.size w w' := by
    intro s2 h2
    have hB0 : Below w.heap.size w (w.alloc (.cells #[.slice (some ⟨b0, o0, none⟩) i cap, s2] 22)).drew := ((Below.refl _ w).alloc (Nat.le_refl _) _).drew
    have h1' : IntsN w (.slice (some ⟨b0, o0, none⟩) i cap) (nats (bs.take i)) := by
      have := Ints.take HN.out (k := i) (by omega)
      have e : (nats bs).take i = nats (bs.take i) := by simp [nats]
      rw [e] at this
      exact ⟨this, _, cap, by rw [nats_length, List.length_take]; rw [show min i bs.length = i by omega]⟩
    have hS : SlOf IntsN (w.alloc (.cells #[.slice (some ⟨b0, o0, none⟩) i cap, s2] 22)).drew (.slice (some ⟨w.heap.size, 0, none⟩) 2 2) [nats (bs.take i), nats (bs.drop (i + 1))] := by
      refine ⟨[.slice (some ⟨b0, o0, none⟩) i cap, s2], ⟨_, 2, rfl, by simp, by simp, by decide, .inr ⟨w.heap.size, 0, rfl, lt_of_block (heap_alloc_new w _), fun k x hx => ?_⟩⟩, rfl, fun k u x hu hx => ?_⟩
      · have hh : (w.alloc (.cells #[.slice (some ⟨b0, o0, none⟩) i cap, s2] 22)).heap[w.heap.size]? = some (.cells #[.slice (some ⟨b0, o0, none⟩) i cap, s2] 22 (0, 0)) := heap_alloc_new w _
        show (w.alloc (.cells #[.slice (some ⟨b0, o0, none⟩) i cap, s2] 22)).cell? _ = _
        simp only [World.cell?, hh, Nat.zero_add]
        match k, hx with
        | 0, hx => simpa using hx
        | 1, hx => simpa using hx
      · match k, hu, hx with
        | 0, hu, hx => simp at hu hx; subst hu hx; exact h1'.below hB0
        | 1, hu, hx => simp at hu hx; subst hu hx; exact h2.below hB0
    refine (concat2 _ _ _ _ hS (by rw [nats_length, List.length_take]; omega) (by rw [nats_length, List.length_drop]; omega)).mono ?_
    rintro e w' ⟨ao, c, rfl, hO, hB⟩
    have el : nats (bs.take i) ++ nats (bs.drop (i + 1)) = nats (bs.take i ++ bs.drop (i + 1)) := by simp [nats]
    rw [el, nats_length, hlr] at hO
    rw [el, nats_length, hlr]
    obtain ⟨g, rfl, hg⟩ := owns_some hO (by omega)
    have hws : w.heap.size ≤ (w.alloc (.cells #[.slice (some ⟨b0, o0, none⟩) i cap, s2] 22)).drew.heap.size := hB0.size
    exact ⟨g, c, rfl, Nat.le_trans hws hg, owns_mono hO hws, hB0.trans (hB.mono hws)⟩
  have HCAT := Lib.hid cat
  have hrb : ∀ x ∈ bs.take i ++ bs.drop (i + 1), x < 64 := fun x hx => Nat.lt_of_lt_of_le (HBr.out.lt x (by
    rcases List.mem_append.1 hx with hr | hr
    · exact List.mem_of_mem_take hr
    · exact List.mem_of_mem_drop hr)) (pw6 n hn6).2
  have HRB := Lib.hid hrb
  have HLR := Lib.hid hlr
  have HWB := Lib.hid (without_brd HBr.out hn2 hi hj)
  have HWD : Hid (withoutL bs i j = (bs.take i ++ bs.drop (i + 1)).map (woN j)) := rfl
  have HDr : Hid (∀ p : Addr, ∀ m c, p = ⟨b0, o0 + (i + 1), none⟩ → m = n - (i + 1) → c = cap - (i + 1) → IntsN w (.slice (some p) m c) (nats (bs.drop (i + 1)))) := Lib.hid (by
    rintro p m c rfl rfl rfl
    obtain ⟨⟨ao', cap', hv, g1, g2, g3, g4⟩, g5⟩ := HN.out
    rw [ints_length, nats_length] at *
    simp only [Value.slice.injEq] at hv
    obtain ⟨rfl, _, rfl⟩ := hv
    have hdl : (bs.drop (i + 1)).length = n - (i + 1) := by rw [List.length_drop]; omega
    refine ⟨⟨⟨_, cap - (i + 1), by rw [ints_length, nats_length, hdl], by rw [ints_length, nats_length, hdl]; omega, by rw [ints_length, nats_length, hdl]; omega, by omega, .inr ?_⟩, fun x hx => g5 x ?_⟩, _, _, by rw [nats_length, hdl]⟩
    · rcases g4 with g4 | ⟨b, o, ea, hlt', hcc⟩
      · have : (ints (nats bs)).length = 0 := by rw [g4]; rfl
        rw [ints_length, nats_length] at this
        omega
      · simp only [Option.some.injEq, Addr.mk.injEq, and_true] at ea
        obtain ⟨rfl, rfl⟩ := ea
        refine ⟨b0, o0 + (i + 1), rfl, hlt', fun k x hx => ?_⟩
        rw [Nat.add_assoc]
        refine hcc (i + 1 + k) x ?_
        rw [← hx]
        simp [ints, nats, List.getElem?_drop]
    · simp only [nats, List.mem_map] at hx ⊢
      obtain ⟨y, hy, rfl⟩ := hx
      exact ⟨y, List.mem_of_mem_drop hy, rfl⟩)
  clear cat hlr hrb
  go_wp2_with fail
  have hi0 : (0:Int) ≤ (i:Int) := by omega
  have hi1 : (i:Int) ≤ (cap:Int) := by omega
  have hi2 : IntKind.i64.wrap ((i:Int) + 1) = ((i + 1 : Nat) : Int) := i64_of (by omega) (by omega)
  have hi3 : ((i + 1 : Nat) : Int) ≤ (n:Int) := by omega
  have hi4 : (n:Int) ≤ (cap:Int) := by omega
  have hc0 : ¬ cap = 0 := by omega
  by_cases hc1 : cap = i + 1
  · obtain rfl : n = i + 1 := by omega
    subst hc1
    have HNil : Hid (IntsN w (.slice (some ⟨b0, o0, none⟩) 0 0) (nats (bs.drop (i + 1)))) := Lib.hid (by
      rw [List.drop_of_length_le (by omega)]
      exact ⟨⟨⟨_, 0, rfl, Nat.le_refl _, Nat.zero_le _, Nat.zero_le _, .inl rfl⟩, by simp [nats]⟩, _, _, rfl⟩)
    go_region_with (go_at_call 63; refine (HCAT.out _ HNil.out).mono ?_; rintro e w1 ⟨g, c1, rfl, hg, hO, hB⟩)
    all_goals
      have HO : Hid (w1.ownsRow w.heap.size 3 1 (.slice (some ⟨g, 0, none⟩) i c1) i (ints (nats (bs.take i ++ bs.drop (i + 1))))) := hO
      have HB := Lib.hid hB
      have HLR' : Hid ((bs.take i ++ bs.drop (i + 1)).length = i) := HLR.out
      have hL6 : i ≤ 6 := by omega
      have hj6 : j ≤ 6 := by omega
      clear hO hB HCAT HDr HN HX hi0 hi1 hi2 hi3 hi4 hc0 HLR 
      generalize bs.take i ++ bs.drop (i + 1) = rs at *
      try go_wp2_with fail
      go_loopw [44] (fun ii wr => ∃ k : Nat, k ≤ i ∧ ii = .int .i64 k ∧ wr.ownsRow w.heap.size 3 1 (.slice (some ⟨g, 0, none⟩) i c1) i (ints (nats (woPart rs j k))) ∧ Below w.heap.size w wr) (fun ii _ => i - (intOf ii).toNat)
      case atStart => exact ⟨0, Nat.zero_le _, rfl, by rw [woPart_zero]; exact HO.out, HB.out⟩
      case round =>
        clear HO HB
        obtain ⟨k, hk, rfl, hO, hB⟩ := hrel
        have HO := Lib.hid hO
        have HB := Lib.hid hB
        clear hO hB
        by_cases hlt : k < i
        · obtain ⟨hc, hf⟩ := owns_cell HO.out (k := k) (by rw [nats_length, woPart_length, HLR'.out]; exact hlt)
          rw [nats_getD, woPart_get _ _ _ (by rw [HLR'.out]; exact hlt)] at hc
          have hr : rs.getD k 0 < 64 := HRB.out _ (natD_mem (by rw [HLR'.out]; exact hlt))
          have HC := Lib.hid (fun w' => below_any j w' (by omega))
          have HS : Hid ((wr.setCell ⟨g, k, none⟩ (.int .i64 (woN j (rs.getD k 0) : Nat))).ownsRow w.heap.size 3 1 (.slice (some ⟨g, 0, none⟩) i c1) i (ints (nats (woPart rs j (k + 1))))) := Lib.hid (by
            rw [← woPart_set _ _ _ (by rw [HLR'.out]; exact hlt), nats_set]; exact owns_set HO.out _)
          have HB2 : Hid (Below w.heap.size w (wr.setCell ⟨g, k, none⟩ (.int .i64 (woN j (rs.getD k 0) : Nat)))) := Lib.hid (HB.out.setCell (p := ⟨g, k, none⟩) hg _)
          generalize rs.getD k 0 = r at *
          go_wp2_with fail
          have hj0 : (0:Int) ≤ (j:Int) := by omega
          have hj2 : IntKind.i64.wrap ((j:Int) + 1) = ((j + 1 : Nat) : Int) := i64_of (by omega) (by omega)
          have hk0 : (0:Int) ≤ (k:Int) := by omega
          have hk1 : (k:Int) < (i:Nat) := by omega
          go_region_with (go_at_call 58; refine (HC.out _).mono ?_; rintro e w' ⟨rfl, rfl⟩)
          rw [wo_val j r hj6 hr]
          clear HC HO HB
          go_wp2
          go_roundw
          case rel => exact ⟨k + 1, by omega, by go_num, HS.out, HB2.out.drew⟩
          case measure => simp [intOf]; omega
        · have hke : k = i := by omega
          have HV : Hid (Nats wr (.slice (some ⟨g, 0, none⟩) i c1) (withoutL bs i j)) := Lib.hid (by
            have h := HO.out
            have e : ints (nats (woPart rs j k)) = ints (nats (withoutL bs i j)) := by rw [show k = rs.length by rw [HLR'.out]; exact hke, woPart_end, HWD.out]
            rw [e] at h
            exact Ints.of_owns h (by omega) (nats_I64 fun x hx => Nat.lt_of_lt_of_le (HWB.out.lt x hx) (by have := pw6 _ HWB.out.le; omega)))
          have HG : Hid (¬ (k:Int) < (i:Int)) := Lib.hid (by omega)
          have hgk := HG.out
          clear HO HWD HLR' hke
          go_wp2
          go_ret2
          exact ⟨_, rfl, HV.out, HB.out⟩
  · go_region_with (go_at_call 63; refine (HCAT.out _ (HDr.out _ _ _ rfl rfl rfl)).mono ?_; rintro e w1 ⟨g, c1, rfl, hg, hO, hB⟩)
    all_goals
      have HO : Hid (w1.ownsRow w.heap.size 3 1 (.slice (some ⟨g, 0, none⟩) (n - 1) c1) (n - 1) (ints (nats (bs.take i ++ bs.drop (i + 1))))) := hO
      have HB := Lib.hid hB
      have HLR' : Hid ((bs.take i ++ bs.drop (i + 1)).length = n - 1) := HLR.out
      have hL6 : n - 1 ≤ 6 := by omega
      have hj6 : j ≤ 6 := by omega
      clear hO hB HCAT HDr HN HX hi0 hi1 hi2 hi3 hi4 hc0 HLR 
      generalize bs.take i ++ bs.drop (i + 1) = rs at *
      try go_wp2_with fail
      go_loopw [44] (fun ii wr => ∃ k : Nat, k ≤ n - 1 ∧ ii = .int .i64 k ∧ wr.ownsRow w.heap.size 3 1 (.slice (some ⟨g, 0, none⟩) (n - 1) c1) (n - 1) (ints (nats (woPart rs j k))) ∧ Below w.heap.size w wr) (fun ii _ => n - 1 - (intOf ii).toNat)
      case atStart => exact ⟨0, Nat.zero_le _, rfl, by rw [woPart_zero]; exact HO.out, HB.out⟩
      case round =>
        clear HO HB
        obtain ⟨k, hk, rfl, hO, hB⟩ := hrel
        have HO := Lib.hid hO
        have HB := Lib.hid hB
        clear hO hB
        by_cases hlt : k < n - 1
        · obtain ⟨hc, hf⟩ := owns_cell HO.out (k := k) (by rw [nats_length, woPart_length, HLR'.out]; exact hlt)
          rw [nats_getD, woPart_get _ _ _ (by rw [HLR'.out]; exact hlt)] at hc
          have hr : rs.getD k 0 < 64 := HRB.out _ (natD_mem (by rw [HLR'.out]; exact hlt))
          have HC := Lib.hid (fun w' => below_any j w' (by omega))
          have HS : Hid ((wr.setCell ⟨g, k, none⟩ (.int .i64 (woN j (rs.getD k 0) : Nat))).ownsRow w.heap.size 3 1 (.slice (some ⟨g, 0, none⟩) (n - 1) c1) (n - 1) (ints (nats (woPart rs j (k + 1))))) := Lib.hid (by
            rw [← woPart_set _ _ _ (by rw [HLR'.out]; exact hlt), nats_set]; exact owns_set HO.out _)
          have HB2 : Hid (Below w.heap.size w (wr.setCell ⟨g, k, none⟩ (.int .i64 (woN j (rs.getD k 0) : Nat)))) := Lib.hid (HB.out.setCell (p := ⟨g, k, none⟩) hg _)
          generalize rs.getD k 0 = r at *
          go_wp2_with fail
          have hj0 : (0:Int) ≤ (j:Int) := by omega
          have hj2 : IntKind.i64.wrap ((j:Int) + 1) = ((j + 1 : Nat) : Int) := i64_of (by omega) (by omega)
          have hk0 : (0:Int) ≤ (k:Int) := by omega
          have hk1 : (k:Int) < ((n - 1 : Nat):Int) := by omega
          go_region_with (go_at_call 58; refine (HC.out _).mono ?_; rintro e w' ⟨rfl, rfl⟩)
          rw [wo_val j r hj6 hr]
          clear HC HO HB
          go_wp2
          go_roundw
          case rel => exact ⟨k + 1, by omega, by go_num, HS.out, HB2.out.drew⟩
          case measure => simp [intOf]; omega
        · have hke : k = n - 1 := by omega
          have HV : Hid (Nats wr (.slice (some ⟨g, 0, none⟩) (n - 1) c1) (withoutL bs i j)) := Lib.hid (by
            have h := HO.out
            have e : ints (nats (woPart rs j k)) = ints (nats (withoutL bs i j)) := by rw [show k = rs.length by rw [HLR'.out]; exact hke, woPart_end, HWD.out]
            rw [e] at h
            exact Ints.of_owns h (by omega) (nats_I64 fun x hx => Nat.lt_of_lt_of_le (HWB.out.lt x hx) (by have := pw6 _ HWB.out.le; omega)))
          have HG : Hid (¬ (k:Int) < ((n - 1 : Nat):Int)) := Lib.hid (by omega)
          have hgk := HG.out
          clear HO HWD HLR' hke
          go_wp2
          go_ret2
          exact ⟨_, rfl, HV.out, HB.out⟩
end Go.Proofs.YtellnklbkjajbaaDoor
