/- the reference's Normal; Balanced and Normal -/
import Derived.Test.YtopmdmafameknaaNo
import Derived.Test.YtopmdmafameknaaDw
namespace Go.Proofs.Ytopmdmafameknaa
open Go.RowKit

/-- put at the place that a fill has come to. -/
theorem put_part {B g n m i j : Nat} {f : Nat → Nat → Bool} {w0 w : World} (h : NatBlk w g (plPart n m f i j)) (hb : Below B w0 w) (hg : B ≤ g) (hi : i < n) (hj : j < m) (hm : m ≤ 16) :
    Calls Try.prog 68 #[.slice (some ⟨g, 0, none⟩) n n, .int .i64 i, .int .i64 j, .int .i64 (sgb (f i j))] w fun e w' => e = .returned (.tuple #[]) ∧ NatBlk w' g (plPart n m f i (j+1)) ∧ Below B w0 w' := by
  have hx : (plPart n m f i j).getD i 0 < 65536 := by
    rw [plPart_get n m f i j hi]
    exact Nat.lt_of_lt_of_le (mk_lt _ _) (pw_nat j (by omega)).2
  refine (put_any g n i j _ (f i j) w h (plPart_length n m f i j) hi (by omega) hx).mono fun e w' ⟨he, hw⟩ => ⟨he, ?_⟩
  cases hf : f i j with
  | false =>
    rw [hf] at hw
    have hw : w' = w := by simpa using hw
    subst hw
    rw [← plPart_no n m f i j hf]
    exact ⟨h, hb⟩
  | true =>
    rw [hf] at hw
    rw [if_pos rfl] at hw
    obtain ⟨q, rfl⟩ := hw
    have := h.set i ((plPart n m f i j).getD i 0 ||| 2 ^ j)
    rw [plPart_get n m f i j hi, plPart_yes n m f i j hf] at this
    rw [plPart_get n m f i j hi]
    exact ⟨this, below_drewN (hb.setCell hg _) _⟩

theorem norm_signs (hs : List Nat) (k l : Nat) : ∃ t1 t2, sg (hs.getD k 0) l * sg (hs.getD 0 0) l = t1 ∧ t1 * sg (hs.getD k 0) 0 = t2 ∧ t2 * sg (hs.getD 0 0) 0 = sgb (normF hs k l) ∧ (-1 ≤ t1 ∧ t1 ≤ 1) ∧ (-1 ≤ t2 ∧ t2 ≤ 1) := by
  refine ⟨_, _, rfl, rfl, ?_, ?_, ?_⟩
  · simp only [sg_sgb, sgb_mul]; rfl
  · simp only [sg_sgb, sgb_mul]; rcases sgb_cases (Nat.testBit (hs.getD k 0) l ^^ Nat.testBit (hs.getD 0 0) l) with h | h <;> rw [h] <;> decide
  · simp only [sg_sgb, sgb_mul]; rcases sgb_cases ((Nat.testBit (hs.getD k 0) l ^^ Nat.testBit (hs.getD 0 0) l) ^^ Nat.testBit (hs.getD k 0) 0) with h | h <;> rw [h] <;> decide
theorem sgb_bd (b : Bool) : -1 ≤ sgb b ∧ sgb b ≤ 1 := by cases b <;> decide

set_option maxHeartbeats 4000000 in
set_option maxRecDepth 100000 in
theorem rNormal_any (v : Value) (n : Nat) (hs : List Nat) (w : World) (h : Nats w v hs) (hm : Mat n hs) :
    Calls Try.prog 24 #[v] w fun e w' => e = .returned (.slice (some ⟨w.heap.size, 0, none⟩) n n) ∧ NatBlk w' w.heap.size (normL n hs) ∧ Below w.heap.size w w' := by
  have HAt := Lib.hid (fun i j w' (hb : Below w.heap.size w w') (hi : i < n) (hj : j ≤ 16) => at_any v hs i j w' (h.below hb (Nat.le_refl _)) (by rw [hm.len]; exact hi) (hm.get16 i) hj)
  obtain ⟨ao, cap, rfl, h1, _⟩ := hm.open h
  have hn := hm.le
  have hpos := hm.pos
  have hmk := run_make22 n n (Nat.le_refl _) (by omega)
  have HZ : Hid (List.replicate n (0:Int) = nats (plPart n n (normF hs) 0 0)) := (plPart_zero n n _).symm
  clear h hm
  go_enter Try.func24, Try.ntmps24
  go_wp2_with fail
  clear hmk
  go_loopw [11] (fun i wr => ∃ k : Nat, k ≤ n ∧ i = .int .i64 k ∧ NatBlk wr w.heap.size (plPart n n (normF hs) k 0) ∧ Below w.heap.size w wr) (fun i _ => n - (intOf i).toNat)
  case atStart => exact ⟨0, Nat.zero_le _, rfl, by rw [HZ.out]; exact NatBlk.start w _, (Below.refl _ _).alloc (Nat.le_refl _) _⟩
  case round =>
    obtain ⟨k, hk, rfl, hB, hb⟩ := hrel
    have HNB := Lib.hid hB
    have HB := Lib.hid hb
    clear hB hb
    by_cases hlt : k < n
    · go_wp2_with fail
      go_loopw [16] (fun i wr => ∃ l : Nat, l ≤ n ∧ i = .int .i64 l ∧ NatBlk wr w.heap.size (plPart n n (normF hs) k l) ∧ Below w.heap.size w wr) (fun i _ => n - (intOf i).toNat)
      case atStart => exact ⟨0, Nat.zero_le _, rfl, HNB.out, HB.out⟩
      case round =>
        clear HNB HB
        obtain ⟨l, hl, rfl, hB, hb⟩ := hrel
        have HNB := Lib.hid hB
        have HB := Lib.hid hb
        clear hB hb
        by_cases hltl : l < n
        · have A1 := Lib.hid (HAt.out k l wr HB.out hlt (by omega))
          have A2 := Lib.hid (HAt.out 0 l wr HB.out hpos (by omega))
          have A3 := Lib.hid (HAt.out k 0 wr HB.out hlt (by omega))
          have A4 := Lib.hid (HAt.out 0 0 wr HB.out hpos (by omega))
          have HP := Lib.hid (put_part HNB.out HB.out (Nat.le_refl _) hlt hltl hn)
          obtain ⟨t1, t2, e1, e2, e3, b1, b2⟩ := norm_signs hs k l
          have b3 := sgb_bd (normF hs k l)
          generalize sg (hs.getD k 0) l = s1 at *
          generalize sg (hs.getD 0 0) l = s2 at *
          generalize sg (hs.getD k 0) 0 = s3 at *
          generalize sg (hs.getD 0 0) 0 = s4 at *
          generalize sgb (normF hs k l) = t3 at *
          go_wp2_with fail
          refine A1.out.mono ?_
          rintro e w' ⟨rfl, rfl⟩
          go_wp2_with fail
          refine A2.out.mono ?_
          rintro e w' ⟨rfl, rfl⟩
          go_wp2_with fail
          refine A3.out.mono ?_
          rintro e w' ⟨rfl, rfl⟩
          go_wp2_with fail
          refine A4.out.mono ?_
          rintro e w' ⟨rfl, rfl⟩
          go_wp2_with fail
          refine HP.out.mono ?_
          rintro e w' ⟨rfl, hB', hb'⟩
          have HNB' := Lib.hid hB'
          have HB' := Lib.hid hb'
          clear hB' hb'
          go_wp2
          go_roundw
          case rel => exact ⟨l + 1, by omega, by go_num, HNB'.out, HB'.out⟩
          case measure => simp [intOf]; omega
        · obtain rfl : l = n := by omega
          have HE := Lib.hid (plPart_next l l (normF hs) k)
          rw [HE.out] at HNB
          go_wp2
          go_roundw
          case rel => exact ⟨k + 1, by omega, by go_num, HNB.out, HB.out⟩
          case measure => simp [intOf]; omega
    · obtain rfl : k = n := by omega
      have HE : Hid (plPart k k (normF hs) k 0 = normL k hs) := plPart_end k k _
      rw [HE.out] at HNB
      go_wp2
      go_ret
      exact ⟨rfl, HNB.out, HB.out⟩

def BalPost (w : World) (xs : List Int) (e : Ending) (w' : World) : Prop :=
  (if matB 16 xs = true then e = .returned (.tuple #[.bool (balB xs.length (xs.map Int.toNat)), .int .i64 0]) else e = .returned (.tuple #[.bool false, .int .i64 2])) ∧ w = w'
def NormPost (w : World) (xs : List Int) (e : Ending) (w' : World) : Prop :=
  (if matB 16 xs = true then ∃ v, e = .returned (.tuple #[v, .int .i64 0]) ∧ Nats w' v (normL xs.length (xs.map Int.toNat)) else e = .returned (.tuple #[.slice none 0 0, .int .i64 2])) ∧ Below w.heap.size w w'

theorem nats_toNat (hs : List Nat) : (nats hs).map Int.toNat = hs := by
  simp [nats, List.map_map, Function.comp_def]

set_option maxHeartbeats 1000000 in
theorem Balanced_any (v : Value) (xs : List Int) (w : World) (h : Ints w v xs) :
    Calls Try.prog 17 #[v] w (BalPost w xs) := by
  have HV := Lib.hid (valid_any v xs w h)
  cases hs : matB 16 xs with
  | false =>
    rw [hs] at HV
    have HS := Lib.hid hs
    obtain ⟨ao, cap, rfl, h1, h2, _⟩ := h.open
    clear h hs
    go_enter Try.func17, Try.ntmps17
    go_wp2_with fail
    refine HV.out.mono ?_
    rintro e w' ⟨rfl, rfl⟩
    go_wp2
    go_ret2
    unfold BalPost
    rw [HS.out]
    exact ⟨rfl, rfl⟩
  | true =>
    rw [hs] at HV
    have HS := Lib.hid hs
    obtain ⟨hh, hx, hm, hl⟩ := matB_of (Nat.le_refl _) hs
    have HX := Lib.hid hx
    have HC := Lib.hid (balanced_any v _ hh w (by rw [hx] at h; exact h) hm)
    obtain ⟨ao, cap, rfl, h1, h2, _⟩ := h.open
    clear h hs hx hm
    go_enter Try.func17, Try.ntmps17
    go_wp2_with fail
    refine HV.out.mono ?_
    rintro e w' ⟨rfl, rfl⟩
    go_wp2_with fail
    refine HC.out.mono ?_
    rintro e w' ⟨rfl, rfl⟩
    go_wp2
    go_ret2
    unfold BalPost
    rw [if_pos HS.out, show xs.map Int.toNat = hh by rw [HX.out]; exact nats_toNat hh]
    exact ⟨rfl, rfl⟩

set_option maxHeartbeats 1000000 in
theorem Normal_any (v : Value) (xs : List Int) (w : World) (h : Ints w v xs) :
    Calls Try.prog 19 #[v] w (NormPost w xs) := by
  have HV := Lib.hid (valid_any v xs w h)
  cases hs : matB 16 xs with
  | false =>
    rw [hs] at HV
    have HS := Lib.hid hs
    obtain ⟨ao, cap, rfl, h1, h2, _⟩ := h.open
    clear h hs
    go_enter Try.func19, Try.ntmps19
    go_wp2_with fail
    refine HV.out.mono ?_
    rintro e w' ⟨rfl, rfl⟩
    go_wp2
    go_ret2
    unfold NormPost
    rw [HS.out]
    exact ⟨rfl, Below.refl _ _⟩
  | true =>
    rw [hs] at HV
    have HS := Lib.hid hs
    obtain ⟨hh, hx, hm, hl⟩ := matB_of (Nat.le_refl _) hs
    have HX := Lib.hid hx
    have HC := Lib.hid (normal_any v _ hh w (by rw [hx] at h; exact h) hm)
    obtain ⟨ao, cap, rfl, h1, h2, _⟩ := h.open
    clear h hs hx hm
    go_enter Try.func19, Try.ntmps19
    go_wp2_with fail
    refine HV.out.mono ?_
    rintro e w' ⟨rfl, rfl⟩
    go_wp2_with fail
    refine HC.out.mono ?_
    rintro e w' ⟨rfl, hB, hb⟩
    have HN := Lib.hid (plant_nats hl hB)
    have HB := Lib.hid hb
    clear hB hb
    go_wp2
    go_ret2
    unfold NormPost
    rw [if_pos HS.out, show xs.map Int.toNat = hh by rw [HX.out]; exact nats_toNat hh]
    exact ⟨⟨_, rfl, HN.out⟩, HB.out⟩
end Go.Proofs.Ytopmdmafameknaa
