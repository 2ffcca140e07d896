/- the reference's Times -/
import Derived.Test.YtopmdmafameknaaTm
import Derived.Deep.RegionHeld3
namespace Go.Proofs.Ytopmdmafameknaa
open Go.RowKit

theorem timesF_sg (a b : List Nat) (n i j : Nat) : sg (a.getD (i / n) 0) (j / n) * sg (b.getD (i % n) 0) (j % n) = sgb (timesF a b n i j) := by
  rw [sg_sgb, sg_sgb, sgb_mul]; rfl

/-- What At tells at a place, in every world from w on. -/
structure AtFact (w : World) (v : Value) (i j : Nat) (s : Int) : Prop where
  call : ∀ w', Below w.heap.size w w' → Calls Try.prog 67 #[v, .int .i64 i, .int .i64 j] w' fun e w'' => e = .returned (.int .i64 s) ∧ w' = w''
theorem AtFact.go {w w' : World} {v : Value} {i j : Nat} {s : Int} (h : AtFact w v i j s) (hb : Below w.heap.size w w') :
    Calls Try.prog 67 #[v, .int .i64 i, .int .i64 j] w' fun e w'' => e = .returned (.int .i64 s) ∧ w' = w'' := h.call w' hb

set_option maxHeartbeats 800000 in
set_option maxRecDepth 100000 in
theorem rTimes_any (va vb : Value) (m n : Nat) (a b : List Nat) (w : World) (ha : Nats w va a) (hb : Nats w vb b) (hma : Mat m a) (hmb : Mat n b) (hmn : m * n ≤ 16) :
    Calls Try.prog 30 #[va, vb] w fun e w' => e = .returned (.slice (some ⟨w.heap.size, 0, none⟩) (m * n : Nat) (m * n : Nat)) ∧ NatBlk w' w.heap.size (timesS m n a b) ∧ Below w.heap.size w w' := by
  have HA := Lib.hid (fun i j w' (hb : Below w.heap.size w w') (hi : i < m) (hj : j ≤ 16) => at_any va a i j w' (ha.below hb (Nat.le_refl _)) (by rw [hma.len]; exact hi) (hma.get16 i) hj)
  have HBB := Lib.hid (fun i j w' (hb' : Below w.heap.size w w') (hi : i < n) (hj : j ≤ 16) => at_any vb b i j w' (hb.below hb' (Nat.le_refl _)) (by rw [hmb.len]; exact hi) (hmb.get16 i) hj)
  obtain ⟨ao, cap, rfl, h1, _⟩ := hma.open ha
  obtain ⟨bo, capb, rfl, h2, _⟩ := hmb.open hb
  have hm16 := hma.le
  have hn16 := hmb.le
  have hn := hmb.pos
  have hmul : (m:Int) * (n:Int) = ((m * n : Nat) : Int) := (Int.natCast_mul ..).symm
  have hmk := run_make22 (m * n) (m * n) (Nat.le_refl _) (by omega)
  have HZ : Hid (List.replicate (m * n) (0:Int) = nats (plPart (m * n) (m * n) (timesF a b n) 0 0)) := (plPart_zero _ _ _).symm
  have HDi : Hid (∀ k, k < m * n → k / n < m) := fun k hk => Nat.div_lt_of_lt_mul (by rw [Nat.mul_comm]; exact hk)
  have HMo : Hid (∀ k : Nat, k % n < n) := fun k => Nat.mod_lt _ hn
  have HTS : Hid (timesS m n a b = plantL (m * n) (timesF a b n)) := rfl
  have hnz : ((n:Int) == 0) = false := by simp; omega
  have HSg := Lib.hid (fun k l => timesF_sg a b n k l)
  clear ha hb hma hmb
  generalize m * n = N at *
  go_enter Try.func30, Try.ntmps30
  go_wp2_with fail
  clear hmk
  go_loopw [18] (fun i wr => ∃ k : Nat, k ≤ N ∧ i = .int .i64 k ∧ NatBlk wr w.heap.size (plPart N N (timesF a b n) k 0) ∧ Below w.heap.size w wr) (fun i _ => N - (intOf i).toNat)
  case atStart => exact ⟨0, Nat.zero_le _, rfl, by rw [HZ.out]; exact NatBlk.start w _, (Below.refl _ _).alloc (Nat.le_refl _) _⟩
  case round =>
    obtain ⟨k, hk, rfl, hB, hb⟩ := hrel
    have HNB := Lib.hid hB
    have HB := Lib.hid hb
    clear hB hb
    by_cases hlt : k < N
    · go_wp2_with fail
      go_loopw [23] (fun i wr => ∃ l : Nat, l ≤ N ∧ i = .int .i64 l ∧ NatBlk wr w.heap.size (plPart N N (timesF a b n) k l) ∧ Below w.heap.size w wr) (fun i _ => N - (intOf i).toNat)
      case atStart => exact ⟨0, Nat.zero_le _, rfl, HNB.out, HB.out⟩
      case round =>
        clear HNB HB
        obtain ⟨l, hl, rfl, hB, hb⟩ := hrel
        have HNB := Lib.hid hB
        have HB := Lib.hid hb
        clear hB hb
        by_cases hltl : l < N
        · have A1 : AtFact w (.slice ao m cap) (k / n) (l / n) (sg (a.getD (k / n) 0) (l / n)) := ⟨fun w' hb => HA.out (k / n) (l / n) w' hb (HDi.out k hlt) (by have := HDi.out l hltl; omega)⟩
          have A2 : AtFact w (.slice bo n capb) (k % n) (l % n) (sg (b.getD (k % n) 0) (l % n)) := ⟨fun w' hb => HBB.out (k % n) (l % n) w' hb (HMo.out k) (by have := HMo.out l; omega)⟩
          have HP := Lib.hid (fun w' (h : NatBlk w' w.heap.size (plPart N N (timesF a b n) k l)) (hb : Below w.heap.size w w') => put_part h hb (Nat.le_refl _) hlt hltl hmn)
          have e1 := HSg.out k l
          have b1 := sgb_bd (timesF a b n k l)
          have d1 : (k:Int).tdiv n = ((k / n : Nat) : Int) := rfl
          have d2 : (l:Int).tdiv n = ((l / n : Nat) : Int) := rfl
          have d3 : (k:Int).tmod n = ((k % n : Nat) : Int) := rfl
          have d4 : (l:Int).tmod n = ((l % n : Nat) : Int) := rfl
          have f1 : (k:Int) / n = ((k / n : Nat) : Int) := rfl
          have f2 : (l:Int) / n = ((l / n : Nat) : Int) := rfl
          have f3 : (k:Int) % n = ((k % n : Nat) : Int) := rfl
          have f4 : (l:Int) % n = ((l % n : Nat) : Int) := rfl
          have hd1 := HDi.out k hlt
          have hd2 := HDi.out l hltl
          have hd3 := HMo.out k
          have hd4 := HMo.out l
          have s1b := sg_bd (a.getD (k / n) 0) (l / n)
          have s2b := sg_bd (b.getD (k % n) 0) (l % n)
          generalize sg (a.getD (k / n) 0) (l / n) = s1 at *
          generalize sg (b.getD (k % n) 0) (l % n) = s2 at *
          generalize sgb (timesF a b n k l) = t3 at *
          generalize k / n = k1 at *
          generalize k % n = k2 at *
          generalize l / n = l1 at *
          generalize l % n = l2 at *
          have w1 : IntKind.i64.wrap (k1 : Int) = k1 := IntWalk.i64_in _ (by omega)
          have w3 : IntKind.i64.wrap t3 = t3 := IntWalk.i64_in _ (by omega)
          have w2 : IntKind.i64.wrap (l1 : Int) = l1 := IntWalk.i64_in _ (by omega)
          go_wp2_with fail
          go_region_with (first | (go_at_call 67; refine (AtFact.go (w := w) (by assumption) ?_).mono ?_; (first | exact HB.out | exact HB.out.drew | exact below_drewN HB.out _); rintro e w' ⟨rfl, rfl⟩) | (go_at_call 68; refine (HP.out _ ?_ ?_).mono ?_; (first | exact HNB.out); (first | exact HB.out | exact HB.out.drew | exact below_drewN HB.out _); rintro e w' ⟨rfl, hB', hb'⟩))
          all_goals
            clear w1 w2 w3 d1 d2 d3 d4 f1 f2 f3 f4
            go_wp2
            go_roundw
            case rel => exact ⟨l + 1, by omega, by go_num, by assumption, by assumption⟩
            case measure => simp [intOf]; omega
        · obtain rfl : l = N := by omega
          have HE := Lib.hid (plPart_next l l (timesF a b n) k)
          rw [HE.out] at HNB
          go_wp2
          go_roundw
          case rel => exact ⟨k + 1, by omega, by go_num, HNB.out, HB.out⟩
          case measure => simp [intOf]; omega
    · obtain rfl : k = N := by omega
      have HE : Hid (plPart k k (timesF a b n) k 0 = plantL k (timesF a b n)) := plPart_end k k _
      rw [HE.out, ← HTS.out] at HNB
      go_wp2
      go_ret
      exact ⟨rfl, HNB.out, HB.out⟩
end Go.Proofs.Ytopmdmafameknaa
