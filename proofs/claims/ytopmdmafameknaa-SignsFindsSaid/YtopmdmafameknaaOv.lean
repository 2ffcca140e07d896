/- over: a matrix turned over -/
import Derived.Test.YtopmdmafameknaaTu
namespace Go.Proofs.Ytopmdmafameknaa
open Go.RowKit

def colF (hs : List Nat) (a b : Nat) : Bool := (hs.getD b 0).testBit a
def overL (n : Nat) (hs : List Nat) : List Nat := plantL n (colF hs)
def ovPart (n : Nat) (hs : List Nat) (i j : Nat) : List Nat := (List.range n).map fun a => mk (if a < j then i + 1 else i) (colF hs a)
theorem ovPart_zero (n : Nat) (hs : List Nat) : nats (ovPart n hs 0 0) = List.replicate n 0 := by
  refine List.ext_getElem (by simp [nats, ovPart]) fun k h1 h2 => ?_
  simp [nats, ovPart, mk]
theorem ovPart_next (n : Nat) (hs : List Nat) (i : Nat) : ovPart n hs i n = ovPart n hs (i+1) 0 := by
  refine List.map_congr_left fun a ha => ?_
  rw [if_pos (List.mem_range.1 ha), if_neg (by omega)]
theorem ovPart_end (n : Nat) (hs : List Nat) : ovPart n hs n 0 = overL n hs := by
  refine List.map_congr_left fun a _ => ?_
  rw [if_neg (by omega)]
theorem ovPart_length (n : Nat) (hs : List Nat) (i j : Nat) : (ovPart n hs i j).length = n := by simp [ovPart]
theorem ovPart_get (n : Nat) (hs : List Nat) (i j : Nat) (hj : j < n) : (ovPart n hs i j).getD j 0 = mk i (colF hs j) := by simp [ovPart, hj]
theorem ovPart_set (n : Nat) (hs : List Nat) (i j : Nat) : (ovPart n hs i j).set j (mk (i+1) (colF hs j)) = ovPart n hs i (j+1) := by
  refine List.ext_getElem (by simp [ovPart]) fun k h1 h2 => ?_
  rw [List.getElem_set]
  split
  · rename_i e; subst e; simp [ovPart]
  · rename_i e
    simp only [ovPart, List.getElem_map, List.getElem_range]
    by_cases h : k < j
    · rw [if_pos h, if_pos (by omega)]
    · rw [if_neg h, if_neg (by omega)]
theorem or_zero (x : Nat) (h : x < 65536) : bits .or .i64 (x:Int) 0 = (x : Int) := by
  have := i64_or x 0 (by omega) (by omega)
  simpa using this

set_option maxHeartbeats 1000000 in
set_option maxRecDepth 100000 in
theorem over_any (v : Value) (n : Nat) (hs : List Nat) (w : World) (h : Nats w v hs) (hm : Mat n hs) :
    Calls Try.prog 54 #[v] w fun e w' => e = .returned (.slice (some ⟨w.heap.size, 0, none⟩) n n) ∧ NatBlk w' w.heap.size (overL n hs) ∧ Below w.heap.size w w' := by
  obtain ⟨ao, cap, rfl, h1, hx⟩ := hm.open h
  have HX := Lib.hid hx
  have HG := Lib.hid hm.get16
  have hn := hm.le
  have hmk := run_make22 n n (Nat.le_refl _) (by omega)
  have HZ : Hid (List.replicate n (0:Int) = nats (ovPart n hs 0 0)) := (ovPart_zero n hs).symm
  clear h hx hm
  go_enter Try.func54, Try.ntmps54
  go_wp2_with fail
  clear hmk
  go_loopw [12] (fun i wr => ∃ k : Nat, k ≤ n ∧ i = .int .i64 k ∧ NatBlk wr w.heap.size (ovPart n hs k 0) ∧ Below w.heap.size w wr) (fun i _ => n - (intOf i).toNat)
  case atStart => exact ⟨0, Nat.zero_le _, rfl, by rw [HZ.out]; exact NatBlk.start w _, (Below.refl _ _).alloc (Nat.le_refl _) _⟩
  case round =>
    obtain ⟨k, hk, rfl, hB, hb⟩ := hrel
    have HNB := Lib.hid hB
    have HB := Lib.hid hb
    clear hB hb
    by_cases hlt : k < n
    · obtain ⟨b, o, rfl, hck⟩ := HX.out k hlt
      have hck' := ck hck HB.out
      have hx16 := HG.out k
      have HCf : Hid (∀ j, colF hs j k = (hs.getD k 0).testBit j) := fun j => rfl
      clear hck
      generalize hs.getD k 0 = x at *
      go_wp2_with fail
      go_loopw [19] (fun i wr => ∃ l : Nat, l ≤ n ∧ i = .int .i64 l ∧ NatBlk wr w.heap.size (ovPart n hs k l) ∧ Below w.heap.size w wr) (fun i _ => n - (intOf i).toNat)
      case atStart => exact ⟨0, Nat.zero_le _, rfl, HNB.out, HB.out⟩
      case round =>
        clear HNB HB hck'
        obtain ⟨l, hl, rfl, hB, hb⟩ := hrel
        have HNB := Lib.hid hB
        have HB := Lib.hid hb
        clear hB hb
        by_cases hltl : l < n
        · have hpw := wrap_pw k (by omega)
          have hand := bit_and1 x l hx16
          obtain ⟨hc, hfz⟩ := HNB.out.cell (k := l) (by rw [ovPart_length]; exact hltl)
          rw [ovPart_get n hs k l hltl] at hc
          have hmb := mk_lt k (colF hs l)
          have hp16 := (pw_nat k (by omega)).2
          have hor := or_pw (mk k (colF hs l)) k (by omega) (by omega)
          have hor0 := or_zero (mk k (colF hs l)) (by omega)
          have HS := Lib.hid (ovPart_set n hs k l)
          have HR := Lib.hid (HNB.out.set l (mk (k+1) (colF hs l)))
          have HB1 : Hid (Below w.heap.size w (wr.setCell ⟨w.heap.size, l, none⟩ (.int .i64 (mk (k+1) (colF hs l) : Nat)))) := HB.out.setCell (Nat.le_refl _) _
          rw [HS.out] at HR
          cases hbt : x.testBit l with
          | true =>
            rw [hbt] at hand
            have hm1 : mk (k+1) (colF hs l) = mk k (colF hs l) ||| 2 ^ k := mk_yes (by rw [HCf.out]; exact hbt)
            rw [hm1] at HR HB1
            have hand' : bits .and .i64 ((x:Int) / 2 ^ l) 1 = 1 := hand
            clear hmb hp16 hm1 hbt hand HS
            generalize mk k (colF hs l) = mm at *
            go_wp2_with fail
            go_region
            go_wp2
            go_roundw
            case rel => exact ⟨l + 1, by omega, by go_num, HR.out, HB1.out.drew⟩
            case measure => simp [intOf]; omega
          | false =>
            rw [hbt] at hand
            have hm1 : mk (k+1) (colF hs l) = mk k (colF hs l) := mk_no (by rw [HCf.out]; exact hbt)
            rw [hm1] at HR HB1
            have hand' : bits .and .i64 ((x:Int) / 2 ^ l) 1 = 0 := hand
            clear hmb hp16 hm1 hbt hand HS
            generalize mk k (colF hs l) = mm at *
            go_wp2_with fail
            go_region
            go_wp2
            go_roundw
            case rel => exact ⟨l + 1, by omega, by go_num, HR.out, HB1.out.drew⟩
            case measure => simp [intOf]; omega
        · obtain rfl : l = n := by omega
          have HE := Lib.hid (ovPart_next l hs k)
          rw [HE.out] at HNB
          go_wp2
          go_roundw
          case rel => exact ⟨k + 1, by omega, by go_num, HNB.out, HB.out⟩
          case measure => simp [intOf]; omega
    · obtain rfl : k = n := by omega
      have HE := Lib.hid (ovPart_end k hs)
      rw [HE.out] at HNB
      go_wp2
      go_ret
      exact ⟨rfl, HNB.out, HB.out⟩
end Go.Proofs.Ytopmdmafameknaa
