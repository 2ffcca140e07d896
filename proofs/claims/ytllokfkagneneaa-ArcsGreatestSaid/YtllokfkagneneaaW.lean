/- sets: Miss and Blocks of arcs -/
import Derived.Test.YtllokfkagneneaaV
namespace Go.Proofs.Ytllokfkagneneaa
open Go.RowKit

theorem setB_of {p : Int} {xs : List Int} (h : setB p xs = true) : ∃ q : Nat, p = q ∧ isPn q ∧ InP q xs ∧ Rises xs := by
  simp only [setB, Bool.and_eq_true] at h
  obtain ⟨h1, h2⟩ := h
  have h3 : isP p = true ∧ inB p.toNat xs = true := by simpa [okB] using h1
  refine ⟨p.toNat, by have := isP_cases h3.1; omega, by have := isP_cases h3.1; unfold isPn; omega, fun k hk => ?_, of_decide_eq_true h2⟩
  have := (List.all_eq_true.1 h3.2) _ (getD_mem hk)
  simpa using this

theorem linesW_I64 (q : Nat) (n : Int) (xs : List Int) (k : Nat) (hk : k ≤ 1000) : ∀ x ∈ linesW q n xs k, I64 x := by
  intro x hx
  simp only [linesW, List.mem_map, List.mem_filter, List.mem_range] at hx
  obtain ⟨l, ⟨hl, _⟩, rfl⟩ := hx
  unfold I64; omega

def missS (q : Nat) (xs : List Int) : List Int := linesW q 0 xs (np q)
def blocksS (q : Nat) (xs : List Int) : Bool := (missS q xs).length == 0 && (linesW q ((q:Int) + 1) xs (np q)).length == 0

def MissPost (w : World) (p : Int) (xs : List Int) (e : Ending) (w' : World) : Prop :=
  if setB p xs = true then ∃ v, e = .returned (.tuple #[v, .int .i64 0]) ∧ Ints w' v (missS p.toNat xs) ∧ Below w.heap.size w w'
  else e = .returned (.tuple #[.slice none 0 0, .int .i64 2]) ∧ Below w.heap.size w w'

set_option maxHeartbeats 2000000 in
theorem miss_any (p : Int) (v : Value) (xs : List Int) (w : World) (h : Ints w v xs) :
    Calls Try.prog 52 #[.int .i64 p, v] w (MissPost w p xs) := by
  have HO := Lib.hid (openSet_any p v xs w h)
  cases hs : setB p xs with
  | false =>
    have HS := Lib.hid hs
    rw [hs] at HO
    clear hs
    go_enter Try.func52, Try.ntmps52
    go_wp2_with fail
    refine HO.out.mono ?_
    intro e w1 hq
    obtain ⟨rfl, hbel⟩ := hq
    have HB := Lib.hid hbel
    clear hbel
    go_wp2
    go_ret2
    unfold MissPost
    rw [HS.out]
    exact ⟨rfl, HB.out⟩
  | true =>
    have HS := Lib.hid hs
    obtain ⟨q, rfl, hq, hin, _⟩ := setB_of hs
    have HL := Lib.hid (fun (b : Nat) (w1 : World) (hP : PlaneAt w1 b q) (hb : Below w.heap.size w w1) => linesWith_any b q 0 v xs w1 hP hq (h.below hb (Nat.le_refl _)) hin)
    have HI := Lib.hid (linesW_I64 q 0 xs (np q) (by have := np_le q hq.le.2; omega))
    have hll := linesW_le q 0 xs (np q)
    have hn57 := np_le q hq.le.2
    rw [hs] at HO
    clear hs hq hin h
    go_enter Try.func52, Try.ntmps52
    go_wp2_with fail
    refine HO.out.mono ?_
    intro e w1 hq
    obtain ⟨b, rfl, hb, hP, hbel⟩ := hq
    have HB := Lib.hid hbel
    have HC := Lib.hid (HL.out b w1 hP hbel)
    clear hbel hP HL
    go_wp2_with fail
    refine HC.out.mono ?_
    rintro e w2 ⟨v', rfl, hown, hb2⟩
    have HV := Lib.hid (Ints.of_owns hown (by omega) HI.out)
    have HB2 := Lib.hid (HB.out.trans (hb2.mono HB.out.size))
    clear hown hb2
    go_wp2
    go_ret2
    unfold MissPost
    rw [HS.out]
    exact ⟨v', rfl, HV.out, HB2.out⟩

def BlocksPost (w : World) (p : Int) (xs : List Int) (e : Ending) (w' : World) : Prop :=
  (if setB p xs = true then e = .returned (.tuple #[.bool (blocksS p.toNat xs), .int .i64 0]) else e = .returned (.tuple #[.bool false, .int .i64 2])) ∧ Below w.heap.size w w'

set_option maxHeartbeats 2000000 in
theorem blocks_any (p : Int) (v : Value) (xs : List Int) (w : World) (h : Ints w v xs) :
    Calls Try.prog 51 #[.int .i64 p, v] w (BlocksPost w p xs) := by
  have HO := Lib.hid (openSet_any p v xs w h)
  cases hs : setB p xs with
  | false =>
    have HS := Lib.hid hs
    rw [hs] at HO
    clear hs
    go_enter Try.func51, Try.ntmps51
    go_wp2_with fail
    refine HO.out.mono ?_
    intro e w1 hq
    obtain ⟨rfl, hbel⟩ := hq
    have HB := Lib.hid hbel
    clear hbel
    go_wp2
    go_ret2
    unfold BlocksPost
    rw [HS.out]
    exact ⟨rfl, HB.out⟩
  | true =>
    have HS := Lib.hid hs
    obtain ⟨q, rfl, hq, hin, _⟩ := setB_of hs
    have HL := Lib.hid (fun (b : Nat) (n : Int) (w1 : World) (hP : PlaneAt w1 b q) (hb : Below w.heap.size w w1) => linesWith_any b q n v xs w1 hP hq (h.below hb (Nat.le_refl _)) hin)
    have hll := linesW_le q 0 xs (np q)
    have hll2 := linesW_le q ((q:Int) + 1) xs (np q)
    have hn57 := np_le q hq.le.2
    have hq7 := hq.le.2
    have HBS : Hid (blocksS q xs = ((linesW q 0 xs (np q)).length == 0 && (linesW q ((q:Int) + 1) xs (np q)).length == 0)) := rfl
    rw [hs] at HO
    clear hs hq hin h
    go_enter Try.func51, Try.ntmps51
    go_wp2_with fail
    refine HO.out.mono ?_
    intro e w1 hq
    obtain ⟨b, rfl, hb, hP, hbel⟩ := hq
    have HP := Lib.hid hP
    have HB := Lib.hid hbel
    have HC := Lib.hid (HL.out b 0 w1 hP hbel)
    clear hbel hP
    go_wp2_with fail
    refine HC.out.mono ?_
    rintro e w2 ⟨v', rfl, hown, hb2⟩
    obtain ⟨ao, c, rfl⟩ := owns_form hown
    have HB2 := Lib.hid (HB.out.trans (hb2.mono HB.out.size))
    have HC2 := Lib.hid (HL.out b ((q:Int) + 1) w2 (HP.out.below hb2 (Nat.le_refl _)) HB2.out)
    clear hown hb2 HL HC
    generalize (linesW q 0 xs (np q)).length = n0 at *
    generalize (linesW q ((q:Int) + 1) xs (np q)) = ls1 at *
    by_cases h0 : n0 ≤ 0
    · have hd : ((n0 : Int) == 0) = true := by simp; omega
      have HBS' : Hid (blocksS q xs = (ls1.length == 0)) := by rw [HBS.out, show (n0 == 0) = true by simpa using (by omega : n0 = 0)]; rfl
      clear h0
      go_wp2_with fail
      refine HC2.out.mono ?_
      rintro e w3 ⟨v3, rfl, hown3, hb3⟩
      obtain ⟨ao3, c3, rfl⟩ := owns_form hown3
      have HB3 := Lib.hid (HB2.out.trans (hb3.mono HB2.out.size))
      clear hown3 hb3
      go_wp2
      go_ret2
      unfold BlocksPost
      rw [HS.out]
      refine ⟨?_, HB3.out⟩
      show _ = Ending.returned (.tuple #[.bool (blocksS q xs), .int .i64 0])
      rw [HBS'.out]
      generalize ls1.length = n1 at *
      rcases Nat.eq_zero_or_pos n1 with h1 | h1
      · subst h1; rfl
      · have e1 : ((n1 : Int) == 0) = false := by simp; omega
        have e2 : (n1 == 0) = false := by simp; omega
        rw [e2]
        simp only [e1]
        rfl
    · have hd : ((n0 : Int) == 0) = false := by simp; omega
      have HBS' : Hid (blocksS q xs = false) := by rw [HBS.out, show (n0 == 0) = false by simpa using (by omega : ¬ n0 = 0)]; rfl
      clear h0
      go_wp2
      go_ret2
      unfold BlocksPost
      rw [HS.out]
      refine ⟨?_, HB2.out⟩
      show _ = Ending.returned (.tuple #[.bool (blocksS q xs), .int .i64 0])
      rw [HBS'.out]
      rfl
end Go.Proofs.Ytllokfkagneneaa
