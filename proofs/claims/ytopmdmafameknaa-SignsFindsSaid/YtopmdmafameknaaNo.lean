/- normal: the program's and the reference's; put; Balanced and Normal -/
import Derived.Test.YtopmdmafameknaaPl
import Derived.Test.YtopmdmafameknaaBa
namespace Go.Proofs.Ytopmdmafameknaa
open Go.RowKit

/-- The sign of a bool. -/
def sgb (b : Bool) : Int := if b then -1 else 1
theorem sg_sgb (x j : Nat) : sg x j = sgb (x.testBit j) := rfl
theorem sgb_mul (a b : Bool) : sgb a * sgb b = sgb (a ^^ b) := by cases a <;> cases b <;> rfl
theorem sgb_cases (b : Bool) : sgb b = 1 ∨ sgb b = -1 := by cases b <;> simp [sgb]

/-- The sign that the normal form has at a place: whether it is -1. -/
def normF (hs : List Nat) (i j : Nat) : Bool := (((hs.getD i 0).testBit j ^^ (hs.getD 0 0).testBit j) ^^ (hs.getD i 0).testBit 0) ^^ (hs.getD 0 0).testBit 0
def normL (n : Nat) (hs : List Nat) : List Nat := plantL n (normF hs)

def fillPart (n : Nat) (F : Nat → Nat) (k : Nat) : List Nat := (List.range n).map fun a => if a < k then F a else 0
theorem fillPart_zero (n : Nat) (F : Nat → Nat) : nats (fillPart n F 0) = List.replicate n 0 := by
  refine List.ext_getElem (by simp [nats, fillPart]) fun k h1 h2 => ?_
  simp [nats, fillPart]
theorem fillPart_length (n : Nat) (F : Nat → Nat) (k : Nat) : (fillPart n F k).length = n := by simp [fillPart]
theorem fillPart_set (n : Nat) (F : Nat → Nat) (k : Nat) : (fillPart n F k).set k (F k) = fillPart n F (k+1) := by
  refine List.ext_getElem (by simp [fillPart]) fun j h1 h2 => ?_
  rw [List.getElem_set]
  split
  · rename_i e; subst e; simp [fillPart]
  · rename_i e
    simp only [fillPart, List.getElem_map, List.getElem_range]
    by_cases h : j < k
    · rw [if_pos h, if_pos (by omega)]
    · rw [if_neg h, if_neg (by omega)]
theorem fillPart_end (n : Nat) (F : Nat → Nat) : fillPart n F n = (List.range n).map F :=
  List.map_congr_left fun _ ha => if_pos (List.mem_range.1 ha)

/-- A row of the normal form. -/
def normR (n x : Nat) : Nat := if x.testBit 0 then x ^^^ (2 ^ n - 1) else x
theorem normR_mk (n : Nat) (hs : List Nat) (hm : Mat n hs) (i : Nat) : normR n (hs.getD i 0 ^^^ hs.getD 0 0) = mk n (normF hs i) := by
  have h1 := xor_lt (hm.get i) (hm.get 0)
  have hf : 2 ^ n - 1 < 2 ^ n := by have := Nat.two_pow_pos n; omega
  symm
  refine mk_ext ?_ fun j hj => ?_
  · unfold normR
    split
    · exact xor_lt h1 hf
    · exact h1
  · unfold normR normF
    rw [Nat.testBit_xor]
    cases ha : (hs.getD i 0).testBit 0 <;> cases hb : (hs.getD 0 0).testBit 0 <;> simp [hj]

set_option maxHeartbeats 2000000 in
set_option maxRecDepth 100000 in
theorem normal_any (v : Value) (n : Nat) (hs : List Nat) (w : World) (h : Nats w v hs) (hm : Mat n hs) :
    Calls Try.prog 66 #[v] w fun e w' => e = .returned (.slice (some ⟨w.heap.size, 0, none⟩) n n) ∧ NatBlk w' w.heap.size (normL n hs) ∧ Below w.heap.size w w' := by
  obtain ⟨ao, cap, rfl, h1, hx⟩ := hm.open h
  obtain ⟨b, o, rfl, hc0⟩ := hx 0 hm.pos
  have HX := Lib.hid hx
  have HG := Lib.hid hm.get
  have hn := hm.le
  have hpos := hm.pos
  have hmk := run_make22 n n (Nat.le_refl _) (by omega)
  obtain ⟨F, hF⟩ : ∃ F : Nat → Nat, F = fun i => normR n (hs.getD i 0 ^^^ hs.getD 0 0) := ⟨_, rfl⟩
  have HE : Hid (fillPart n F n = normL n hs) := by
    rw [fillPart_end, hF]; exact List.map_congr_left fun i _ => normR_mk n hs hm i
  have HZ : Hid (List.replicate n (0:Int) = nats (fillPart n F 0)) := (fillPart_zero n F).symm
  have HFk : Hid (∀ k, F k = normR n (hs.getD k 0 ^^^ hs.getD 0 0)) := fun k => by rw [hF]
  obtain ⟨x0, hx0⟩ : ∃ x, x = hs.getD 0 0 := ⟨_, rfl⟩
  have hx0l : x0 < 2 ^ n := by rw [hx0]; exact hm.get 0
  rw [Nat.add_zero] at hc0
  rw [← hx0] at hc0 HFk
  have hp16 := (pw_nat n hn).2
  clear h hx hm hx0 hF
  go_enter Try.func66, Try.ntmps66
  go_wp2_with fail
  clear hmk
  go_loopw [11] (fun i wr => ∃ k : Nat, k ≤ n ∧ i = .int .i64 k ∧ NatBlk wr w.heap.size (fillPart n F k) ∧ Below w.heap.size w wr) (fun i _ => n - (intOf i).toNat)
  case atStart => exact ⟨0, Nat.zero_le _, rfl, by rw [HZ.out]; exact NatBlk.start w _, (Below.refl _ _).alloc (Nat.le_refl _) _⟩
  case round =>
    obtain ⟨k, hk, rfl, hB, hb⟩ := hrel
    have HNB := Lib.hid hB
    have HB := Lib.hid hb
    clear hB hb
    by_cases hlt : k < n
    · obtain ⟨b', o', heq, hck⟩ := HX.out k hlt
      obtain ⟨rfl, rfl⟩ : b = b' ∧ o = o' := by simpa using heq
      have hck' := ck hck HB.out
      have hc0' := ck hc0 HB.out
      obtain ⟨hcc, hfz⟩ := HNB.out.cell (k := k) (by rw [fillPart_length]; exact hlt)
      have HFx := Lib.hid (HFk.out k)
      have hkl := HG.out k
      have HS := Lib.hid (fillPart_set n F k)
      obtain ⟨x, hxe⟩ : ∃ x, x = hs.getD k 0 := ⟨_, rfl⟩
      rw [← hxe] at hck' HFx hkl
      have hxor := i64_xor x x0 (by omega) (by omega)
      have hzl := xor_lt hkl hx0l
      obtain ⟨z, hze⟩ : ∃ z, z = x ^^^ x0 := ⟨_, rfl⟩
      rw [← hze] at hxor HFx hzl
      have hz16 : z < 65536 := by omega
      obtain ⟨q, hq⟩ : ∃ q, q = (fillPart n F k).getD k 0 := ⟨_, rfl⟩
      rw [← hq] at hcc
      have HN1 : Hid (NatBlk (wr.setCell ⟨w.heap.size, k, none⟩ (.int .i64 (z : Nat))) w.heap.size ((fillPart n F k).set k z)) := HNB.out.set k z
      have HB1 : Hid (Below w.heap.size w (wr.setCell ⟨w.heap.size, k, none⟩ (.int .i64 (z : Nat)))) := HB.out.setCell (Nat.le_refl _) _
      have hb1 : b ≠ w.heap.size := fun e => by have := World.block_lt_of_cell? w _ hck; subst e; exact Nat.lt_irrefl _ this
      have HT := Lib.hid (has_any z 0 (wr.setCell ⟨w.heap.size, k, none⟩ (.int .i64 (z : Nat))) hz16 (Nat.zero_le _))
      have HTu := Lib.hid (turn_any z n (wr.setCell ⟨w.heap.size, k, none⟩ (.int .i64 (z : Nat))) hz16 hn)
      clear hxe hze hq hck heq hkl hzl hc0'
      have hc0' := ck hc0 HB.out
      cases ht : z.testBit 0 with
      | false =>
        have HF' : Hid (F k = z) := by rw [HFx.out]; unfold normR; rw [ht]; rfl
        have HR : Hid (NatBlk (wr.setCell ⟨w.heap.size, k, none⟩ (.int .i64 (z : Nat))) w.heap.size (fillPart n F (k+1))) := by rw [← HS.out, HF'.out]; exact HN1.out
        rw [ht] at HT
        clear ht
        go_wp2_with fail
        refine HT.out.mono ?_
        rintro e w' ⟨rfl, rfl⟩
        go_wp2
        go_roundw
        case rel => exact ⟨k + 1, by omega, by go_num, HR.out, HB1.out⟩
        case measure => simp [intOf]; omega
      | true =>
        have HF' : Hid (F k = z ^^^ (2 ^ n - 1)) := by rw [HFx.out]; unfold normR; rw [ht]; rfl
        have HR : Hid (NatBlk ((wr.setCell ⟨w.heap.size, k, none⟩ (.int .i64 (z : Nat))).setCell ⟨w.heap.size, k, none⟩ (.int .i64 (z ^^^ (2 ^ n - 1) : Nat))) w.heap.size (fillPart n F (k+1))) := by
          have := HN1.out.set k (z ^^^ (2 ^ n - 1))
          rw [List.set_set, ← HF'.out, HS.out] at this
          rw [← HF'.out]; exact this
        rw [ht] at HT
        clear ht
        go_wp2_with fail
        refine HT.out.mono ?_
        rintro e w' ⟨rfl, rfl⟩
        go_wp2_with fail
        refine HTu.out.mono ?_
        rintro e w' ⟨rfl, rfl⟩
        generalize z ^^^ (2 ^ n - 1) = y at *
        go_wp2
        go_roundw
        case rel => exact ⟨k + 1, by omega, by go_num, HR.out, HB1.out.setCell (Nat.le_refl _) _⟩
        case measure => simp [intOf]; omega
    · obtain rfl : k = n := by omega
      rw [HE.out] at HNB
      go_wp2
      go_ret
      exact ⟨rfl, HNB.out, HB.out⟩

/-- put: the bit is set if the sign is -1. -/
theorem put_any (g n i j : Nat) (hs : List Nat) (b : Bool) (w : World) (h : NatBlk w g hs) (hl : hs.length = n) (hi : i < n) (hj : j < 16) (hx : hs.getD i 0 < 65536) :
    Calls Try.prog 68 #[.slice (some ⟨g, 0, none⟩) n n, .int .i64 i, .int .i64 j, .int .i64 (sgb b)] w fun e w' => e = .returned (.tuple #[]) ∧
      (if b then ∃ m, w' = (w.setCell ⟨g, i, none⟩ (.int .i64 (hs.getD i 0 ||| 2 ^ j : Nat))).drewN m else w' = w) := by
  subst hl
  obtain ⟨hc, hf⟩ := h.cell hi
  have hor := or_pw _ j hx hj
  have hpw := wrap_pw j (by omega)
  clear h hx
  generalize hs.getD i 0 = x at *
  cases b with
  | false =>
    show Calls Try.prog 68 #[.slice (some ⟨g, 0, none⟩) hs.length hs.length, .int .i64 i, .int .i64 j, .int .i64 1] w _
    go_enter Try.func68, Try.ntmps68
    go_wp2
    go_end0
    exact ⟨rfl, rfl⟩
  | true =>
    show Calls Try.prog 68 #[.slice (some ⟨g, 0, none⟩) hs.length hs.length, .int .i64 i, .int .i64 j, .int .i64 (-1)] w _
    go_enter Try.func68, Try.ntmps68
    go_wp2
    go_region
    all_goals
      go_end0
      exact ⟨rfl, 1, rfl⟩
end Go.Proofs.Ytopmdmafameknaa
