/- signs: plant, the closure of Times -/
import Derived.Test.YtdnhfnegnjdeoaaDoorTv
namespace Go.Proofs.YtdnhfnegnjdeoaaDoor
open Go.RowKit

theorem plant_mat {n : Nat} (f : Nat → Nat → Bool) (h : 1 ≤ n) (h' : n ≤ 16) : Mat n (plantL n f) :=
  ⟨plant_length n f, h, h', fun x hx => by obtain ⟨i, _, rfl⟩ := List.mem_map.1 hx; exact mk_lt _ _⟩

/-- The closure N, with what it has caught, tells f of numbers below n. -/
structure TellsP (N : Nat) (cs : Array Value) (n : Nat) (f : Nat → Nat → Bool) (w : World) : Prop where
  enter : ∀ (args : Array Value) (w : World), (callFunc N args).run Tryd.prog w = .ok (.enter N args) w
  call : ∀ (i j : Nat) (w' : World), i < n → j < n → Below w.heap.size w w' → Calls Tryd.prog N (#[.int .i64 i, .int .i64 j] ++ cs) w' fun e w'' => e = .returned (.bool (f i j)) ∧ Below w'.heap.size w' w''

set_option maxHeartbeats 2000000 in
set_option maxRecDepth 100000 in
theorem plant_any (n N : Nat) (cs : Array Value) (f : Nat → Nat → Bool) (w : World) (hn : n ≤ 16) (hT : TellsP N cs n f w) :
    Calls Tryd.prog 89 #[.int .i64 n, .func (.func N) #[] cs] w fun e w' => e = .returned (.slice (some ⟨w.heap.size, 0, none⟩) n n) ∧ NatBlk w' w.heap.size (plantL n f) ∧ Below w.heap.size w w' := by
  have hmk := run_make22 n n (Nat.le_refl _) (by omega)
  have hent := hT.enter
  have HC := Lib.hid hT.call
  have HZ : Hid (List.replicate n (0:Int) = nats (plPart n n f 0 0)) := (plPart_zero n n f).symm
  clear hT
  go_enter Tryd.func89, Tryd.ntmps89
  go_wp2_with fail
  go_loopw [11] (fun i wr => ∃ k : Nat, k ≤ n ∧ i = .int .i64 k ∧ NatBlk wr w.heap.size (plPart n n f k 0) ∧ Below w.heap.size w wr) (fun i _ => n - (intOf i).toNat)
  case atStart => exact ⟨0, Nat.zero_le _, rfl, by rw [HZ.out]; exact NatBlk.start w _, (Below.refl _ _).alloc (Nat.le_refl _) _⟩
  case round =>
    obtain ⟨k, hk, rfl, hB, hb⟩ := hrel
    have HNB := Lib.hid hB
    have HB := Lib.hid hb
    clear hB hb
    by_cases hlt : k < n
    · go_wp2_with fail
      go_loopw [15] (fun i wr => ∃ l : Nat, l ≤ n ∧ i = .int .i64 l ∧ NatBlk wr w.heap.size (plPart n n f k l) ∧ Below w.heap.size w wr) (fun i _ => n - (intOf i).toNat)
      case atStart => exact ⟨0, Nat.zero_le _, rfl, HNB.out, HB.out⟩
      case round =>
        clear HNB HB
        obtain ⟨l, hl, rfl, hB, hb⟩ := hrel
        have HNB := Lib.hid hB
        have HB := Lib.hid hb
        clear hB hb
        by_cases hltl : l < n
        · have HC' := Lib.hid (HC.out k l wr hlt hltl HB.out)
          have hpw := wrap_pw l (by omega)
          cases hf : f k l with
          | true =>
            rw [hf] at HC'
            have HY := Lib.hid (plPart_yes n n f k l hf)
            clear hf
            go_wp2_with fail
            refine HC'.out.mono ?_
            rintro e w1 ⟨rfl, hb1⟩
            have HB1 := Lib.hid (HB.out.trans (hb1.mono HB.out.size))
            have HNB1 := Lib.hid (HNB.out.below hb1)
            clear hb1
            obtain ⟨hc, hfz⟩ := HNB1.out.cell (k := k) (by rw [plPart_length]; exact hlt)
            rw [plPart_get n n f k l hlt] at hc
            have hmb := mk_lt l (f k)
            have hp16 := (pw_nat l (by omega)).2
            have hor := or_pw (mk l (f k)) l (by omega) (by omega)
            have HR : Hid (NatBlk (w1.setCell ⟨w.heap.size, k, none⟩ (.int .i64 (mk l (f k) ||| 2 ^ l : Nat))) w.heap.size (plPart n n f k (l+1))) := by rw [← HY.out]; exact HNB1.out.set k _
            clear hmb hp16
            generalize mk l (f k) = mm at *
            go_wp2_with fail
            go_region
            go_wp2
            go_roundw
            case rel => exact ⟨l + 1, by omega, by go_num, HR.out, (HB1.out.setCell (Nat.le_refl _) _).drew⟩
            case measure => simp [intOf]; omega
          | false =>
            rw [hf] at HC'
            have HY := Lib.hid (plPart_no n n f k l hf)
            clear hf
            go_wp2_with fail
            refine HC'.out.mono ?_
            rintro e w1 ⟨rfl, hb1⟩
            have HB1 := Lib.hid (HB.out.trans (hb1.mono HB.out.size))
            have HNB1 := Lib.hid (HNB.out.below hb1)
            clear hb1
            go_wp2
            go_roundw
            case rel => exact ⟨l + 1, by omega, by go_num, by rw [← HY.out]; exact HNB1.out, HB1.out⟩
            case measure => simp [intOf]; omega
        · obtain rfl : l = n := by omega
          have HE := Lib.hid (plPart_next l l f k)
          rw [HE.out] at HNB
          go_wp2
          go_roundw
          case rel => exact ⟨k + 1, by omega, by go_num, HNB.out, HB.out⟩
          case measure => simp [intOf]; omega
    · obtain rfl : k = n := by omega
      have HE : Hid (plPart k k f k 0 = plantL k f) := plPart_end k k f
      rw [HE.out] at HNB
      go_wp2
      go_ret
      exact ⟨rfl, HNB.out, HB.out⟩
def timesF (a b : List Nat) (n i j : Nat) : Bool := (a.getD (i / n) 0).testBit (j / n) != (b.getD (i % n) 0).testBit (j % n)

/-- What the closure has caught. -/
structure CapT (w : World) (pa pn pb : Nat) (va vb : Value) (n : Nat) (a b : List Nat) (m : Nat) : Prop where
  ca : w.cell? ⟨pa, 0, none⟩ = some va
  cn : w.cell? ⟨pn, 0, none⟩ = some (.int .i64 n)
  cb : w.cell? ⟨pb, 0, none⟩ = some vb
  na : Nats w va a
  nb : Nats w vb b
  ma : Mat m a
  mb : Mat n b
theorem CapT.below {w w' : World} {pa pn pb : Nat} {va vb : Value} {n : Nat} {a b : List Nat} {m : Nat} (h : CapT w pa pn pb va vb n a b m) (hb : Below w.heap.size w w') : CapT w' pa pn pb va vb n a b m :=
  ⟨ck h.ca hb, ck h.cn hb, ck h.cb hb, h.na.below hb (Nat.le_refl _), h.nb.below hb (Nat.le_refl _), h.ma, h.mb⟩

set_option maxHeartbeats 2000000 in
set_option maxRecDepth 100000 in
theorem times1_any (i j pa pn pb : Nat) (va vb : Value) (n m : Nat) (a b : List Nat) (w : World) (h : CapT w pa pn pb va vb n a b m) (hi : i < m * n) (hj : j < m * n) :
    Calls Tryd.prog 87 #[.int .i64 i, .int .i64 j, .pointer (some ⟨pa, 0, none⟩), .pointer (some ⟨pn, 0, none⟩), .pointer (some ⟨pb, 0, none⟩)] w fun e w' => e = .returned (.bool (timesF a b n i j)) ∧ ∃ q, w' = w.drewN q := by
  have hn := h.mb.pos
  have hn16 := h.mb.le
  have hm16 := h.ma.le
  have hi1 : i / n < m := Nat.div_lt_of_lt_mul (by rw [Nat.mul_comm]; exact hi)
  have hj1 : j / n < m := Nat.div_lt_of_lt_mul (by rw [Nat.mul_comm]; exact hj)
  have hi2 : i % n < n := Nat.mod_lt _ hn
  have hj2 : j % n < n := Nat.mod_lt _ hn
  obtain ⟨ao, cap, hva, h1, hxa⟩ := h.ma.open h.na
  obtain ⟨bo, capb, hvb, h2, hxb⟩ := h.mb.open h.nb
  obtain ⟨ab, ax, rfl, hca⟩ := hxa (i / n) hi1
  obtain ⟨bb, bx, rfl, hcb⟩ := hxb (i % n) hi2
  have ca := h.ca
  have cn := h.cn
  have cb := h.cb
  rw [hva] at ca
  rw [hvb] at cb
  have ha16 := h.ma.get16 (i / n)
  have hb16 := h.mb.get16 (i % n)
  have hj1' : j / n ≤ 16 := by omega
  have hj2' : j % n ≤ 16 := by omega
  have HF : Hid (timesF a b n i j = ((a.getD (i / n) 0).testBit (j / n) != (b.getD (i % n) 0).testBit (j % n))) := rfl
  have d1 : (i:Int).tdiv n = ((i / n : Nat) : Int) := rfl
  have d2 : (j:Int).tdiv n = ((j / n : Nat) : Int) := rfl
  have d3 : (i:Int).tmod n = ((i % n : Nat) : Int) := rfl
  have d4 : (j:Int).tmod n = ((j % n : Nat) : Int) := rfl
  have hnz : ((n:Int) == 0) = false := by simp; omega
  clear h hxa hxb hva hvb hi hj
  generalize a.getD (i / n) 0 = x at *
  generalize b.getD (i % n) 0 = y at *
  generalize i / n = i1 at *
  generalize i % n = i2 at *
  generalize j / n = j1 at *
  generalize j % n = j2 at *
  have q1 : (0:Int) ≤ (i1 : Int) := by omega
  have q2 : (i1:Int) < (m : Int) := by omega
  have q3 : (0:Int) ≤ (i2 : Int) := by omega
  have q4 : (i2:Int) < (n : Int) := by omega
  go_enter Tryd.func87, Tryd.ntmps87
  go_wp2
  go_quiet ((go_at_call 88; exact quiet_eq (sHas_any _ _ _ (by assumption) (by assumption))))
  go_wp2
  go_ret
  exact ⟨ret_bool HF.out.symm, _, rfl⟩
end Go.Proofs.YtdnhfnegnjdeoaaDoor
