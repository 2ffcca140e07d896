/- the reference's Array -/
import Derived.Test.YtopmdmafameknaaGc
import Derived.Test.YtopmdmafameknaaGe
import Derived.Test.YtopmdmafameknaaNr
import Derived.Deep.RegionHeld3
namespace Go.Proofs.Ytopmdmafameknaa
open Go.RowKit

theorem ckg {W w' : World} {g : Nat} {a : Addr} {v : Value} (h : W.cell? a = some v) (hb : Below g W w') (ha : a.block < g) : w'.cell? a = some v := (hb.cell ha).trans h

/-- put where the bit is not yet set, or already. -/
theorem put_again {B g n m i j e : Nat} {f : Nat → Nat → Bool} {w0 w : World} (he : e ≤ 1) (h : NatBlk w g (plPart n m f i (j + e))) (hb : Below B w0 w) (hg : B ≤ g) (hi : i < n) (hj : j < m) (hm : m ≤ 16) :
    Calls Try.prog 68 #[.slice (some ⟨g, 0, none⟩) n n, .int .i64 i, .int .i64 j, .int .i64 (sgb (f i j))] w fun e w' => e = .returned (.tuple #[]) ∧ NatBlk w' g (plPart n m f i (j+1)) ∧ Below B w0 w' := by
  rcases Nat.eq_zero_or_pos e with e0 | e1
  · subst e0
    exact put_part h hb hg hi hj hm
  · obtain rfl : e = 1 := by omega
    have hx : (plPart n m f i (j+1)).getD i 0 < 65536 := by
      rw [plPart_get n m f i (j+1) hi]
      exact Nat.lt_of_lt_of_le (mk_lt _ _) (pw_nat (j+1) (by omega)).2
    refine (put_any g n i j _ (f i j) w h (plPart_length n m f i (j+1)) hi (by omega) hx).mono fun e w' ⟨he, hw⟩ => ⟨he, ?_⟩
    cases hf : f i j with
    | false =>
      rw [hf] at hw
      have hw : w' = w := by simpa using hw
      subst hw
      exact ⟨h, hb⟩
    | true =>
      rw [hf] at hw
      rw [if_pos rfl] at hw
      obtain ⟨q, rfl⟩ := hw
      have := h.set i ((plPart n m f i (j+1)).getD i 0 ||| 2 ^ j)
      have e2 : mk (j+1) (f i) ||| 2 ^ j = mk (j+1) (f i) := by rw [mk_yes hf, Nat.or_assoc, Nat.or_self]
      rw [plPart_get n m f i (j+1) hi, e2] at this
      have e3 : (plPart n m f i (j+1)).set i (mk (j+1) (f i)) = plPart n m f i (j+1) := by
        have := plPart_get n m f i (j+1) hi
        refine List.ext_getElem (by simp) fun k h1 h2 => ?_
        rw [List.getElem_set]
        split
        · rename_i ek; subst ek
          simp [plPart]
        · rfl
      rw [e3] at this
      rw [plPart_get n m f i (j+1) hi, e2]
      exact ⟨this, below_drewN (hb.setCell hg _) _⟩

def chkM (m : Nat) : Bool := (List.range (4 * m)).all fun i => (List.range (4 * m)).all fun j => (j % m + m - i % m) % m == (j + 4 * m - i) % m
theorem chkM_all : chkM 1 = true ∧ chkM 2 = true ∧ chkM 3 = true ∧ chkM 4 = true := by decide +kernel
theorem mod_shift {m i j : Nat} (h1 : 1 ≤ m) (hm : m ≤ 4) (hi : i < 4 * m) (hj : j < 4 * m) : (j % m + m - i % m) % m = (j + 4 * m - i) % m := by
  have h : chkM m = true := by
    obtain ⟨a, b, c, d⟩ := chkM_all
    have : m = 1 ∨ m = 2 ∨ m = 3 ∨ m = 4 := by omega
    rcases this with rfl | rfl | rfl | rfl
    · exact a
    · exact b
    · exact c
    · exact d
  have h2 := List.all_eq_true.1 (List.all_eq_true.1 h i (List.mem_range.2 hi)) j (List.mem_range.2 hj)
  simpa using h2
theorem arrF_sg (m a b c d i j : Nat) (h1 : 1 ≤ m) (hm : m ≤ 4) (hi : i < 4 * m) (hj : j < 4 * m) : sgb ((bef (i / m)).testBit (j / m)) * sg (selN a b c d ((i / m) ^^^ (j / m))) ((j % m + m - i % m) % m) = sgb (arrF m a b c d i j) := by
  rw [mod_shift h1 hm hi hj, sg_sgb, sgb_mul]; rfl

abbrev tabB : Array Value := #[.int .i64 0, .int .i64 1, .int .i64 2, .int .i64 3, .int .i64 1, .int .i64 0, .int .i64 3, .int .i64 2, .int .i64 2, .int .i64 3, .int .i64 0, .int .i64 1, .int .i64 3, .int .i64 2, .int .i64 1, .int .i64 0]
abbrev tabS : Array Value := #[.int .i64 1, .int .i64 1, .int .i64 1, .int .i64 1, .int .i64 (-1), .int .i64 1, .int .i64 (-1), .int .i64 1, .int .i64 (-1), .int .i64 1, .int .i64 1, .int .i64 (-1), .int .i64 (-1), .int .i64 (-1), .int .i64 1, .int .i64 1]
theorem tabB_get {r c : Nat} (hr : r < 4) (hc : c < 4) : tabB[r * 4 + c]? = some (.int .i64 ((r ^^^ c : Nat) : Int)) := by
  have h1 : r = 0 ∨ r = 1 ∨ r = 2 ∨ r = 3 := by omega
  have h2 : c = 0 ∨ c = 1 ∨ c = 2 ∨ c = 3 := by omega
  rcases h1 with rfl | rfl | rfl | rfl <;> rcases h2 with rfl | rfl | rfl | rfl <;> rfl
theorem tabS_get {r c : Nat} (hr : r < 4) (hc : c < 4) : tabS[r * 4 + c]? = some (.int .i64 (sgb ((bef r).testBit c))) := by
  have h1 : r = 0 ∨ r = 1 ∨ r = 2 ∨ r = 3 := by omega
  have h2 : c = 0 ∨ c = 1 ∨ c = 2 ∨ c = 3 := by omega
  rcases h1 with rfl | rfl | rfl | rfl <;> rcases h2 with rfl | rfl | rfl | rfl <;> rfl

set_option maxHeartbeats 2000000 in
set_option maxRecDepth 100000 in
theorem rArray_any (m a b c d : Nat) (w : World) (h1 : 1 ≤ m) (hm : m ≤ 4) (hx : ∀ q, selN a b c d q < 65536) :
    Calls Try.prog 47 #[.int .i64 m, arr4 a b c d] w fun e w' => ∃ v, e = .returned v ∧ Nats w' v (arrL m a b c d) ∧ Below w.heap.size w w' := by
  have hmk := run_make22 (4 * m) (4 * m) (Nat.le_refl _) (by omega)
  rw [show ((4 * m : Nat) : Int) = 4 * (m:Int) by omega] at hmk
  obtain ⟨W0, hW0⟩ : ∃ W0, W0 = (((w.alloc (.cells #[.int .i64 (a:Int), .int .i64 b, .int .i64 c, .int .i64 d] 43)).alloc (.cells tabB 76)).alloc (.cells tabS 76)).alloc (.cells (ints (List.replicate (4 * m) 0)).toArray 3) := ⟨_, rfl⟩
  have e1 : (w.alloc (.cells #[.int .i64 (a:Int), .int .i64 b, .int .i64 c, .int .i64 d] 43)).heap.size = w.heap.size + 1 := by simp
  have e2 : ((w.alloc (.cells #[.int .i64 (a:Int), .int .i64 b, .int .i64 c, .int .i64 d] 43)).alloc (.cells tabB 76)).heap.size = w.heap.size + 1 + 1 := by simp
  have e3 : (((w.alloc (.cells #[.int .i64 (a:Int), .int .i64 b, .int .i64 c, .int .i64 d] 43)).alloc (.cells tabB 76)).alloc (.cells tabS 76)).heap.size = w.heap.size + 1 + 1 + 1 := by simp
  have F1 : ∀ k, k < 4 → W0.cell? ⟨w.heap.size, k, none⟩ = some (.int .i64 (selN a b c d k : Nat)) := fun k hk => by
    rw [hW0]
    refine ck (W := w.alloc (.cells #[.int .i64 (a:Int), .int .i64 b, .int .i64 c, .int .i64 d] 43)) ?_ ((((Below.refl _ _).alloc (Nat.le_refl _) _).alloc (by simp) _).alloc (by simp) _)
    rw [World.cell?_alloc_new]
    match k, hk with
    | 0, _ => rfl
    | 1, _ => rfl
    | 2, _ => rfl
    | 3, _ => rfl
  have F2 : ∀ r c', r < 4 → c' < 4 → W0.cell? ⟨w.heap.size + 1, r * 4 + c', none⟩ = some (.int .i64 ((r ^^^ c' : Nat) : Int)) := fun r c' hr hc => by
    rw [hW0, ← e1]
    refine ck (W := (w.alloc (.cells #[.int .i64 (a:Int), .int .i64 b, .int .i64 c, .int .i64 d] 43)).alloc (.cells tabB 76)) ?_ (((Below.refl _ _).alloc (Nat.le_refl _) _).alloc (by simp) _)
    rw [World.cell?_alloc_new]
    exact tabB_get hr hc
  have F3 : ∀ r c', r < 4 → c' < 4 → W0.cell? ⟨w.heap.size + 1 + 1, r * 4 + c', none⟩ = some (.int .i64 (sgb ((bef r).testBit c'))) := fun r c' hr hc => by
    rw [hW0, ← e2]
    refine ck (W := ((w.alloc (.cells #[.int .i64 (a:Int), .int .i64 b, .int .i64 c, .int .i64 d] 43)).alloc (.cells tabB 76)).alloc (.cells tabS 76)) ?_ ((Below.refl _ _).alloc (Nat.le_refl _) _)
    rw [World.cell?_alloc_new]
    exact tabS_get hr hc
  have hNB0 : NatBlk W0 (w.heap.size + 1 + 1 + 1) (plPart (4 * m) (4 * m) (arrF m a b c d) 0 0) := by
    rw [hW0, ← e3]
    have := NatBlk.start (((w.alloc (.cells #[.int .i64 (a:Int), .int .i64 b, .int .i64 c, .int .i64 d] 43)).alloc (.cells tabB 76)).alloc (.cells tabS 76)) (plPart (4 * m) (4 * m) (arrF m a b c d) 0 0)
    rwa [plPart_zero] at this
  have hB0 : Below w.heap.size w W0 := by
    rw [hW0]
    exact ((((Below.refl w.heap.size w).alloc (Nat.le_refl _) _).alloc (by simp) _).alloc (by simp; omega) _).alloc (by simp; omega) _
  have HF1 := Lib.hid F1
  have HF2 := Lib.hid F2
  have HF3 := Lib.hid F3
  have HNB0 := Lib.hid hNB0
  have HB0 := Lib.hid hB0
  have HX := Lib.hid hx
  have HW0 := Lib.hid hW0
  have HSg := Lib.hid (fun i j hi hj => arrF_sg m a b c d i j h1 hm hi hj)
  have HDv : Hid (∀ k, k < 4 * m → k / m < 4) := fun k hk => Nat.div_lt_of_lt_mul (by rw [Nat.mul_comm]; exact hk)
  have HMo : Hid (∀ k : Nat, k % m < m) := fun k => Nat.mod_lt _ (by omega)
  have hmz : ((m:Int) == 0) = false := by simp; omega
  have hN16 : 4 * m ≤ 16 := by omega
  have hNi : ((4 * m : Nat) : Int) = 4 * (m:Int) := by omega
  have HNi := Lib.hid hNi
  clear F1 F2 F3 hNB0 hB0 hx hW0 e1 e2 e3 hNi
  go_enter Try.func47, Try.ntmps47
  go_wp2_with fail
  rw [← HW0.out]
  clear hmk
  go_loopw [25] (fun i wr => ∃ k : Nat, k ≤ 4 * m ∧ i = .int .i64 k ∧ NatBlk wr (w.heap.size + 1 + 1 + 1) (plPart (4 * m) (4 * m) (arrF m a b c d) k 0) ∧ Below (w.heap.size + 1 + 1 + 1) W0 wr) (fun i _ => 4 * m - (intOf i).toNat)
  case atStart => exact ⟨0, Nat.zero_le _, rfl, HNB0.out, Below.refl _ _⟩
  case round =>
    obtain ⟨k, hk, rfl, hB, hb⟩ := hrel
    have HNB := Lib.hid hB
    have HB := Lib.hid hb
    clear hB hb
    by_cases hlt : k < 4 * m
    · go_wp2_with fail
      go_loopw [30] (fun i wr => ∃ l : Nat, l ≤ 4 * m ∧ i = .int .i64 l ∧ NatBlk wr (w.heap.size + 1 + 1 + 1) (plPart (4 * m) (4 * m) (arrF m a b c d) k l) ∧ Below (w.heap.size + 1 + 1 + 1) W0 wr) (fun i _ => 4 * m - (intOf i).toNat)
      case atStart => exact ⟨0, Nat.zero_le _, rfl, HNB.out, HB.out⟩
      case round =>
        clear HNB HB
        obtain ⟨l, hl, rfl, hB, hb⟩ := hrel
        have HNB := Lib.hid hB
        have HB := Lib.hid hb
        clear hB hb
        by_cases hltl : l < 4 * m
        · have hr4 := HDv.out k hlt
          have hc4 := HDv.out l hltl
          have hq4 : (k / m) ^^^ (l / m) < 4 := Nat.xor_lt_two_pow (n := 2) hr4 hc4
          have hkm := HMo.out k
          have hlm := HMo.out l
          have G1 := HF1.out _ hq4
          have G2 := HF2.out _ _ hr4 hc4
          have G3 := HF3.out _ _ hr4 hc4
          have hx16 := HX.out ((k / m) ^^^ (l / m))
          have es := HSg.out k l hlt hltl
          have HP := Lib.hid (fun (w' : World) (e : Nat) (he : e ≤ 1) (h : NatBlk w' (w.heap.size + 1 + 1 + 1) (plPart (4 * m) (4 * m) (arrF m a b c d) k (l + e))) (hb : Below (w.heap.size + 1 + 1 + 1) W0 w') => put_again he h hb (Nat.le_refl _) hlt hltl hN16)
          have t3b := sgb_bd (arrF m a b c d k l)
          have s1b := sgb_bd ((bef (k / m)).testBit (l / m))
          have s2b := sg_bd (selN a b c d ((k / m) ^^^ (l / m))) ((l % m + m - k % m) % m)
          have HCi := Lib.hid (fun w' => circ_any m (selN a b c d ((k / m) ^^^ (l / m))) (k % m) (l % m) w' h1 (by omega) hx16 hkm hlm)
          have d1 : (k:Int).tdiv m = ((k / m : Nat) : Int) := rfl
          have d2 : (l:Int).tdiv m = ((l / m : Nat) : Int) := rfl
          have d3 : (k:Int).tmod m = ((k % m : Nat) : Int) := rfl
          have d4 : (l:Int).tmod m = ((l % m : Nat) : Int) := rfl
          have f1 : (k:Int) / m = ((k / m : Nat) : Int) := rfl
          have f2 : (l:Int) / m = ((l / m : Nat) : Int) := rfl
          have f3 : (k:Int) % m = ((k % m : Nat) : Int) := rfl
          have f4 : (l:Int) % m = ((l % m : Nat) : Int) := rfl
          generalize sg (selN a b c d ((k / m) ^^^ (l / m))) ((l % m + m - k % m) % m) = s2 at *
          generalize sgb ((bef (k / m)).testBit (l / m)) = s1 at *
          generalize sgb (arrF m a b c d k l) = t3 at *
          generalize selN a b c d ((k / m) ^^^ (l / m)) = x at *
          generalize (k / m) ^^^ (l / m) = q at *
          generalize k / m = r1 at *
          generalize l / m = c1 at *
          generalize k % m = k2 at *
          generalize l % m = l2 at *
          have q1 : (0:Int) ≤ (r1 : Int) := by omega
          have q2 : (r1:Int) < 4 := by omega
          have q3 : (0:Int) ≤ (c1 : Int) := by omega
          have q4 : (c1:Int) < 4 := by omega
          have q5 : (0:Int) ≤ (q : Int) := by omega
          have q6 : (q:Int) < 4 := by omega
          have w1 : IntKind.i64.wrap (r1 : Int) = r1 := IntWalk.i64_in _ (by omega)
          have w2 : IntKind.i64.wrap (c1 : Int) = c1 := IntWalk.i64_in _ (by omega)
          have w3 : IntKind.i64.wrap t3 = t3 := IntWalk.i64_in _ (by omega)
          have hm0 : ¬ m = 0 := by omega
          have hm1 : ¬ (m:Int) = 0 := by omega
          have HS0 : Hid (wr.drew.cell? ⟨w.heap.size + 1 + 1, r1 * 4 + c1, none⟩ = some (.int .i64 s1) ∧ wr.drew.cell? ⟨w.heap.size + 1, r1 * 4 + c1, none⟩ = some (.int .i64 (q : Nat)) ∧ wr.drew.cell? ⟨w.heap.size, q, none⟩ = some (.int .i64 (x : Nat)) ∧ (∃ e, e ≤ 1 ∧ NatBlk wr.drew (w.heap.size + 1 + 1 + 1) (plPart (4 * m) (4 * m) (arrF m a b c d) k (l + e))) ∧ Below (w.heap.size + 1 + 1 + 1) W0 wr.drew) := ⟨ckg G3 HB.out.drew (by show w.heap.size + 1 + 1 < w.heap.size + 1 + 1 + 1; omega), ckg G2 HB.out.drew (by show w.heap.size + 1 < w.heap.size + 1 + 1 + 1; omega), ckg G1 HB.out.drew (by show w.heap.size < w.heap.size + 1 + 1 + 1; omega), ⟨0, by omega, HNB.out⟩, HB.out.drew⟩
          have HS1 : Hid (∀ w', NatBlk w' (w.heap.size + 1 + 1 + 1) (plPart (4 * m) (4 * m) (arrF m a b c d) k (l + 1)) → Below (w.heap.size + 1 + 1 + 1) W0 w' → w'.cell? ⟨w.heap.size + 1 + 1, r1 * 4 + c1, none⟩ = some (.int .i64 s1) ∧ w'.cell? ⟨w.heap.size + 1, r1 * 4 + c1, none⟩ = some (.int .i64 (q : Nat)) ∧ w'.cell? ⟨w.heap.size, q, none⟩ = some (.int .i64 (x : Nat)) ∧ (∃ e, e ≤ 1 ∧ NatBlk w' (w.heap.size + 1 + 1 + 1) (plPart (4 * m) (4 * m) (arrF m a b c d) k (l + e))) ∧ Below (w.heap.size + 1 + 1 + 1) W0 w') := fun w' hB' hb' => ⟨ckg G3 hb' (by show w.heap.size + 1 + 1 < w.heap.size + 1 + 1 + 1; omega), ckg G2 hb' (by show w.heap.size + 1 < w.heap.size + 1 + 1 + 1; omega), ckg G1 hb' (by show w.heap.size < w.heap.size + 1 + 1 + 1; omega), ⟨1, by omega, hB'⟩, hb'⟩
          clear G1 G2 G3
          go_wp2_with fail
          go_region_held3 (fun w' => w'.cell? ⟨w.heap.size + 1 + 1, r1 * 4 + c1, none⟩ = some (.int .i64 s1) ∧ w'.cell? ⟨w.heap.size + 1, r1 * 4 + c1, none⟩ = some (.int .i64 (q : Nat)) ∧ w'.cell? ⟨w.heap.size, q, none⟩ = some (.int .i64 (x : Nat)) ∧ (∃ e, e ≤ 1 ∧ NatBlk w' (w.heap.size + 1 + 1 + 1) (plPart (4 * m) (4 * m) (arrF m a b c d) k (l + e))) ∧ Below (w.heap.size + 1 + 1 + 1) W0 w')
            (first | exact HS0.out | exact HS1.out _ hB' hb' | assumption)
            (first | (go_at_call 84; refine (HCi.out _).mono ?_; rintro e w' ⟨rfl, rfl⟩) | (go_at_call 68; (obtain ⟨_, _, _, ⟨e0, he0, hn0⟩, hbb⟩ := ‹_ ∧ _›); refine (HP.out _ e0 he0 hn0 hbb).mono ?_; rintro e w' ⟨rfl, hB', hb'⟩))
          all_goals
            clear w1 w2 w3 d1 d2 d3 d4 f1 f2 f3 f4
            go_wp2
            have hdec : decide ((k:Int) < 4 * (m:Int)) = true := decide_eq_true (by omega)
            refine ⟨?_, ?measure⟩
            · (repeat apply Exists.intro)
              rw [hdec]
              refine ⟨?_, rfl⟩
              exact ⟨l + 1, by omega, by go_num, hB', hb'⟩
            case measure => simp [intOf]; omega
        · obtain rfl : l = 4 * m := by omega
          have HE := Lib.hid (plPart_next (4 * m) (4 * m) (arrF m a b c d) k)
          rw [HE.out] at HNB
          go_wp2
          go_roundw
          case rel => exact ⟨k + 1, by omega, by go_num, HNB.out, HB.out⟩
          case measure => simp [intOf]; omega
    · obtain rfl : k = 4 * m := by omega
      have HE : Hid (plPart (4 * m) (4 * m) (arrF m a b c d) (4 * m) 0 = arrL m a b c d) := plPart_end (4 * m) (4 * m) _
      rw [HE.out] at HNB
      have HV := Lib.hid (plant_nats hN16 HNB.out)
      have HBZ := Lib.hid (HB0.out.trans (HB.out.mono (by omega)))
      go_wp2
      go_ret
      exact ⟨_, rfl, HV.out, HBZ.out⟩
end Go.Proofs.Ytopmdmafameknaa
