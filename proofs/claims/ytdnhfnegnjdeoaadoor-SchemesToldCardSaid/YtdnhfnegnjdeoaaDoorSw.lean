/- switched, Switch -/
import Derived.Test.YtdnhfnegnjdeoaaDoorLr
import Derived.Test.YtdnhfnegnjdeoaaDoorSm
namespace Go.Proofs.YtdnhfnegnjdeoaaDoor
open Go.RowKit

theorem owns_set {w : World} {B g n c : Nat} {xs : List Int} (h : w.ownsRow B 3 1 (.slice (some ⟨g, 0, none⟩) n c) n (ints xs)) {k : Nat} (x : Int) :
    (w.setCell ⟨g, k, none⟩ (.int .i64 x)).ownsRow B 3 1 (.slice (some ⟨g, 0, none⟩) n c) n (ints (xs.set k x)) := by
  obtain ⟨h1, h2⟩ := h
  rcases h2 with ⟨h2, _⟩ | ⟨g', cap, cur, hv, hB, hh, hc, hm, hs, hx⟩
  · cases h2
  · simp only [Value.slice.injEq, Option.some.injEq, Addr.mk.injEq, and_true, true_and] at hv
    obtain ⟨rfl, rfl⟩ := hv
    refine ⟨by simpa [ints] using h1, .inr ⟨g, c, _, rfl, hB, heap_set_at hh _, hc, hm, by simpa using hs, ?_⟩⟩
    rw [Array.toList_setIfInBounds, List.take_set, hx]
    simp [ints, List.map_set]
theorem owns_cell {w : World} {B g n c : Nat} {xs : List Int} (h : w.ownsRow B 3 1 (.slice (some ⟨g, 0, none⟩) n c) n (ints xs)) {k : Nat} (hk : k < xs.length) :
    w.cell? ⟨g, k, none⟩ = some (.int .i64 (xs.getD k 0)) ∧ w.frozen? ⟨g, k, none⟩ = false := by
  obtain ⟨h1, h2⟩ := h
  rcases h2 with ⟨h2, _⟩ | ⟨g', cap, cur, hv, hB, hh, hc, hm, hs, hx⟩
  · cases h2
  · simp only [Value.slice.injEq, Option.some.injEq, Addr.mk.injEq, and_true, true_and] at hv
    obtain ⟨rfl, rfl⟩ := hv
    have hl : xs.length = n := by rw [ints_length] at h1; omega
    have hk' : (ints xs)[k]? = some (.int .i64 (xs.getD k 0)) := by simp [ints, hk]
    rw [← hx, List.getElem?_take_of_lt (by omega)] at hk'
    constructor
    · simp only [World.cell?, hh]
      simpa using hk'
    · simp [World.frozen?, hh]
theorem owns_some {w : World} {B n c : Nat} {ao : Option Addr} {xs : List Value} (h : w.ownsRow B 3 1 (.slice ao n c) n xs) (hn : 0 < n) : ∃ g, ao = some ⟨g, 0, none⟩ ∧ B ≤ g := by
  obtain ⟨_, h2⟩ := h
  rcases h2 with ⟨h2, h0⟩ | ⟨g', cap, cur, hv, hB, _⟩
  · omega
  · simp only [Value.slice.injEq] at hv
    exact ⟨g', hv.1, hB⟩

theorem nats_set (hs : List Nat) (k x : Nat) : nats (hs.set k x) = (nats hs).set k (x : Int) := by simp [nats, List.map_set]

/-- The graph with the first k nodes switched. -/
def swP (n : Nat) (bs : List Nat) (s k : Nat) : List Nat := (swL n bs s).take k ++ bs.drop k
theorem swP_zero (n : Nat) (bs : List Nat) (s : Nat) : swP n bs s 0 = bs := by simp [swP]
theorem swP_end {n : Nat} {bs : List Nat} (s : Nat) (h : bs.length = n) : swP n bs s n = swL n bs s := by
  have hl := swL_length n bs s
  unfold swP
  rw [List.take_of_length_le (by omega), List.drop_of_length_le (by omega), List.append_nil]
theorem swP_length {n : Nat} {bs : List Nat} (s k : Nat) (h : bs.length = n) (hk : k ≤ n) : (swP n bs s k).length = n := by
  have hl := swL_length n bs s
  simp only [swP, List.length_append, List.length_take, List.length_drop]; omega
theorem swP_get {n : Nat} {bs : List Nat} (s k : Nat) (hk : k < n) : (swP n bs s k).getD k 0 = bs.getD k 0 := by
  have hl : ((swL n bs s).take k).length = k := by rw [List.length_take, swL_length]; omega
  simp only [swP, List.getD_eq_getElem?_getD]
  rw [List.getElem?_append_right (by omega), hl, Nat.sub_self, List.getElem?_drop]
  simp
theorem swP_set {n : Nat} {bs : List Nat} (s k : Nat) (h : bs.length = n) (hk : k < n) : (swP n bs s k).set k (swN n s k (bs.getD k 0)) = swP n bs s (k + 1) := by
  have hl : ((swL n bs s).take k).length = k := by rw [List.length_take, swL_length]; omega
  have h2 : k < (swL n bs s).length := by rw [swL_length]; exact hk
  have e : (swL n bs s)[k] = swN n s k (bs.getD k 0) := by
    have := swL_get (bs := bs) (s := s) hk
    rw [← this]; simp [h2]
  unfold swP
  rw [List.set_append_right _ _ (by omega), hl, Nat.sub_self, List.drop_eq_getElem_cons (by omega), List.set_cons_zero, List.take_succ_eq_append_getElem h2, List.append_assoc, e]
  rfl

set_option maxRecDepth 100000 in
set_option maxHeartbeats 2000000 in
theorem switched_any (v : Value) (bs : List Nat) (n s : Nat) (w : World) (hb : Gr n bs) (h : Nats w v bs) (hs : s < 2 ^ n) :
    Calls Tryd.prog 79 #[v, .int .i64 s] w fun e w' => ∃ ao c, e = .returned (.slice ao n c) ∧ w'.ownsRow w.heap.size 3 1 (.slice ao n c) n (ints (nats (swL n bs s))) ∧ Below w.heap.size w w' := by
  have HCl := Lib.hid (clone1_any v (nats bs) w h)
  rw [nats_length, hb.len] at HCl
  have hn := hb.le
  have hpos := hb.pos
  have hs16 : s < 65536 := Nat.lt_of_lt_of_le hs (pw_nat n hn).2
  have HG := Lib.hid (fun k => hb.get16 k)
  have HL := Lib.hid hb.len
  have HGr := Lib.hid hb
  have hpn := pw_nat n hn
  have hand : bits .andNot .i64 ((2:Int) ^ n - 1) (s:Int) = ((sub (2 ^ n - 1) s : Nat) : Int) := by
    rw [show ((2:Int) ^ n - 1) = ((2 ^ n - 1 : Nat) : Int) by rw [← pw_cast]; omega]
    exact i64_andNot _ _ (by omega) (by omega)
  have hsub : sub (2 ^ n - 1) s < 2 ^ n := sub_le _ _ _ (by omega)
  have HX1 := Lib.hid (fun k => i64_xor (bs.getD k 0) (sub (2 ^ n - 1) s) (by have := HG.out k; omega) (by omega))
  have HX2 := Lib.hid (fun k => i64_xor (bs.getD k 0) s (by have := HG.out k; omega) (by omega))
  have HC := Lib.hid (fun w => below_any n w hn)
  have HHas := Lib.hid (fun k w (hk : k ≤ 16) => has_any s k w hk)
  have hlen : ∃ ao cap, v = .slice ao n cap := by obtain ⟨ao, cap, hv, _⟩ := hb.open h; exact ⟨ao, cap, hv⟩
  obtain ⟨ao0, cap0, rfl⟩ := hlen
  clear h hb hpn hsub
  generalize hq : sub (2 ^ n - 1) s = q at *
  have HQ : Hid (sub (2 ^ n - 1) s = q) := hq
  clear hq
  go_enter Tryd.func79, Tryd.ntmps79
  go_wp2_with fail
  refine HCl.out.mono ?_
  rintro e w1 ⟨ao, c, rfl, hO, hb1⟩
  obtain ⟨g, rfl, hge⟩ := owns_some hO hpos
  have HO1 := Lib.hid hO
  have HB1 := Lib.hid hb1
  clear hO hb1
  go_wp2_with fail
  go_loopw [11] (fun ii wr => ∃ k : Nat, k ≤ n ∧ ii = .int .i64 k ∧ wr.ownsRow w.heap.size 3 1 (.slice (some ⟨g, 0, none⟩) n c) n (ints (nats (swP n bs s k))) ∧ Below w.heap.size w wr) (fun ii _ => n - (intOf ii).toNat)
  case atStart => exact ⟨0, Nat.zero_le _, rfl, by rw [swP_zero]; exact HO1.out, HB1.out⟩
  case round =>
    clear HO1 HB1
    obtain ⟨k, hk, rfl, hO, hb⟩ := hrel
    have HO := Lib.hid hO
    have HB := Lib.hid hb
    clear hO hb
    by_cases hlt : k < n
    · obtain ⟨hc, hf⟩ := owns_cell HO.out (k := k) (by rw [nats_length, swP_length _ _ HL.out hk]; exact hlt)
      rw [nats_getD, swP_get _ _ hlt] at hc
      have HS : Hid (∀ w2 : World, w2.ownsRow w.heap.size 3 1 (.slice (some ⟨g, 0, none⟩) n c) n (ints (nats (swP n bs s k))) → (w2.setCell ⟨g, k, none⟩ (.int .i64 (swN n s k (bs.getD k 0) : Nat))).ownsRow w.heap.size 3 1 (.slice (some ⟨g, 0, none⟩) n c) n (ints (nats (swP n bs s (k + 1))))) := Lib.hid fun w2 ho => by
        rw [← swP_set _ _ HL.out hlt, nats_set]; exact owns_set ho _
      have HE : Hid (swN n s k (bs.getD k 0) = if s.testBit k then bs.getD k 0 ^^^ q else bs.getD k 0 ^^^ s) := Lib.hid (by unfold swN; rw [HQ.out])
      have hx1 := HX1.out k
      have hx2 := HX2.out k
      have HH := Lib.hid (fun w => HHas.out k w (by omega))
      have hi0 : (0:Int) ≤ (k:Int) := by omega
      have hi1 : (k:Int) < (n:Int) := by omega
      have HOd : Hid (wr.drew.ownsRow w.heap.size 3 1 (.slice (some ⟨g, 0, none⟩) n c) n (ints (nats (swP n bs s k)))) := Lib.hid HO.out
      generalize bs.getD k 0 = r at *
      generalize swN n s k r = z at *
      cases ht : s.testBit k with
      | true =>
        rw [ht] at HH HE
        have hz : z = r ^^^ q := HE.out
        subst hz
        have HN := Lib.hid (HS.out _ HOd.out)
        generalize r ^^^ q = z at *
        clear HE HS ht HHas hx2
        go_wp2_with fail
        refine (HH.out _).mono ?_
        rintro e w' ⟨rfl, rfl⟩
        go_wp2_with fail
        go_region_with (go_at_call 82; refine (HC.out _).mono ?_; rintro e w' ⟨rfl, rfl⟩)
        all_goals
          go_wp2_with fail
          go_roundw
          case rel => exact ⟨k + 1, by omega, by go_num, HN.out, (HB.out.drew).setCell hge _⟩
          case measure => simp [intOf]; omega
      | false =>
        rw [ht] at HH HE
        have hz : z = r ^^^ s := HE.out
        subst hz
        have HN := Lib.hid (HS.out _ HO.out)
        generalize r ^^^ s = z at *
        clear HE HS ht HHas hx1
        go_wp2_with fail
        refine (HH.out _).mono ?_
        rintro e w' ⟨rfl, rfl⟩
        go_wp2_with fail
        go_roundw
        case rel => exact ⟨k + 1, by omega, by go_num, HN.out, HB.out.setCell hge _⟩
        case measure => simp [intOf]; omega
    · obtain rfl : k = n := by omega
      have HN : Hid (wr.ownsRow w.heap.size 3 1 (.slice (some ⟨g, 0, none⟩) k c) k (ints (nats (swL k bs s)))) := Lib.hid (by rw [← swP_end s HL.out]; exact HO.out)
      clear HO
      go_wp2_with fail
      go_ret
      exact ⟨_, _, rfl, HN.out, HB.out⟩

theorem Gr.of_owns {w : World} {B n : Nat} {v : Value} {bs : List Nat} (hg : Gr n bs) (h : w.ownsRow B 3 1 v n (ints (nats bs))) : Nats w v bs := Ints.of_owns h (by have := hg.le; omega) hg.i64

set_option maxHeartbeats 1000000 in
theorem Switch_any (v : Value) (bs : List Nat) (n s : Nat) (w : World) (hb : Gr n bs) (h : Nats w v bs) (hs : s < 2 ^ n) (hT : Tab w) :
    Calls Tryd.prog 38 #[v, .int .i64 s] w fun e w' => ∃ v', e = .returned (.tuple #[v', .int .i64 0]) ∧ Nats w' v' (swL n bs s) ∧ Below w.heap.size w w' := by
  have HI := Lib.hid (isGraph_any v _ w h hT)
  rw [graphB_mk hb] at HI
  have HS := Lib.hid (fun w' (hb' : Below w.heap.size w w') => switched_any v bs n s w' hb (h.below hb' (Nat.le_refl _)) hs)
  have HGr := Lib.hid (swL_gr hb hs)
  have HZ := Lib.hid (fun w => isSet_any (s : Int) n w hb.le)
  have hz : setB (s:Int) n = true := decide_eq_true ⟨by omega, by rw [← pw_cast]; omega⟩
  rw [hz] at HZ
  obtain ⟨ao, cap, rfl, _, _⟩ := hb.open h
  clear h hb hT hz
  go_enter Tryd.func38, Tryd.ntmps38
  go_wp2_with fail
  refine HI.out.mono ?_
  rintro e w1 ⟨rfl, hb1⟩
  go_wp2_with fail
  refine (HZ.out _).mono ?_
  rintro e w' ⟨rfl, rfl⟩
  go_wp2_with fail
  refine (HS.out w1 hb1).mono ?_
  rintro e w2 ⟨ao2, c2, rfl, hO, hb2⟩
  have HN := Lib.hid (HGr.out.of_owns hO)
  have HB := Lib.hid (hb1.trans (hb2.mono hb1.size))
  clear hO hb1 hb2
  go_wp2_with fail
  go_ret2
  exact ⟨_, rfl, HN.out, HB.out⟩
set_option maxHeartbeats 1000000 in
theorem Switch_bad (v : Value) (xs : List Int) (s : Int) (w : World) (h : Ints w v xs) (hg : graphB xs = false ∨ setB s xs.length = false) (hT : Tab w) :
    Calls Tryd.prog 38 #[v, .int .i64 s] w fun e w' => e = .returned (.tuple #[.slice none 0 0, .int .i64 2]) ∧ Below w.heap.size w w' := by
  have HI := Lib.hid (isGraph_any v _ w h hT)
  obtain ⟨ao, cap, rfl, _, _⟩ := h.open
  clear h hT
  cases hgg : graphB xs with
  | false =>
    rw [hgg] at HI
    clear hg hgg
    go_enter Tryd.func38, Tryd.ntmps38
    go_wp2_with fail
    refine HI.out.mono ?_
    rintro e w1 ⟨rfl, hb1⟩
    have HB := Lib.hid hb1
    clear hb1
    go_wp2_with fail
    go_ret2
    exact ⟨rfl, HB.out⟩
  | true =>
    rw [hgg] at HI hg
    have hz : setB s xs.length = false := by simpa using hg
    obtain ⟨_, hle, _⟩ := of_decide_eq_true hgg
    have HZ := Lib.hid (fun w => isSet_any s xs.length w hle)
    rw [hz] at HZ
    clear hg hgg hz
    go_enter Tryd.func38, Tryd.ntmps38
    go_wp2_with fail
    refine HI.out.mono ?_
    rintro e w1 ⟨rfl, hb1⟩
    have HB := Lib.hid hb1
    clear hb1
    go_wp2_with fail
    refine (HZ.out _).mono ?_
    rintro e w' ⟨rfl, rfl⟩
    go_wp2_with fail
    go_ret2
    exact ⟨rfl, HB.out⟩
end Go.Proofs.YtdnhfnegnjdeoaaDoor
