/- planes in this seat: on, openSet, count, noThree, Arc, openArc -/
import Derived.Test.YtlalfjkenkmojaaRa
namespace Go.Proofs.Ytlalfjkenkmojaa.Ar
open Go.RowKit


def dotS (a b : T3) : Int := a.1*b.1 + a.2.1*b.2.1 + a.2.2*b.2.2
def onB (p i j : Nat) : Bool := dotS (pt p i) (pt p j) % p == 0

theorem ck {W w1 : World} {a : Addr} {v : Value} (h : W.cell? a = some v) (hb : Below W.heap.size W w1) : w1.cell? a = some v := (hb.cell (World.block_lt_of_cell? W _ h)).trans h

set_option maxHeartbeats 1000000 in
set_option maxRecDepth 100000 in
theorem on_any (b p i j : Nat) (w : World) (h : PlaneAt w b p) (hp : isPn p) (hi : i < np p) (hj : j < np p) :
    Calls Try.prog 121 #[.pointer (some ⟨b, 0, none⟩), .int .i64 i, .int .i64 j] w fun e w' => e = .returned (.bool (onB p i j)) ∧ Below w.heap.size w w' := by
  obtain ⟨hp2, hp7⟩ := hp.le
  obtain ⟨c, cap, c0, c1, hcap, hb, hc, hx⟩ := h.open
  obtain ⟨i0, i1, i2⟩ := hx i hi
  obtain ⟨j0, j1, j2⟩ := hx j hj
  obtain ⟨⟨a1, a2⟩, ⟨a3, a4⟩, ⟨a5, a6⟩⟩ := pt_bd p i hp hi
  obtain ⟨⟨b1, b2⟩, ⟨b3, b4⟩, ⟨b5, b6⟩⟩ := pt_bd p j hp hj
  have HO : Hid (onB p i j = (((pt p i).1*(pt p j).1 + (pt p i).2.1*(pt p j).2.1 + (pt p i).2.2*(pt p j).2.2) % (p:Int) == 0)) := rfl
  have hn := np_le p hp7
  clear hx h hp
  generalize np p = n at *
  generalize (pt p i).1 = x0 at *
  generalize (pt p i).2.1 = x1 at *
  generalize (pt p i).2.2 = x2 at *
  generalize (pt p j).1 = y0 at *
  generalize (pt p j).2.1 = y1 at *
  generalize (pt p j).2.2 = y2 at *
  go_enter Try.func121, Try.ntmps121
  go_wp2
  go_region_held3 (fun w' => w'.cell? ⟨b, 0, none⟩ = some (.int .i64 p) ∧ w'.cell? ⟨b, 1, none⟩ = some (.slice (some ⟨c, 0, none⟩) n cap) ∧ w'.cell? ⟨c, i*3, none⟩ = some (.int .i64 x0) ∧ w'.cell? ⟨c, i*3+1, none⟩ = some (.int .i64 x1) ∧ w'.cell? ⟨c, i*3+2, none⟩ = some (.int .i64 x2) ∧ w'.cell? ⟨c, j*3, none⟩ = some (.int .i64 y0) ∧ w'.cell? ⟨c, j*3+1, none⟩ = some (.int .i64 y1) ∧ w'.cell? ⟨c, j*3+2, none⟩ = some (.int .i64 y2) ∧ Below w.heap.size w w')
    (first | exact ⟨c0, c1, i0, i1, i2, j0, j1, j2, (Below.refl _ _).drew⟩ | (obtain ⟨k0, k1, k2, k3, k4, k5, k6, k7, kb⟩ := ‹_ ∧ _›; first | exact ⟨ck k0 hbx, ck k1 hbx, ck k2 hbx, ck k3 hbx, ck k4 hbx, ck k5 hbx, ck k6 hbx, ck k7 hbx, kb.trans (hbx.mono kb.size)⟩ | exact ⟨k0, k1, k2, k3, k4, k5, k6, k7, below_drewN kb _⟩))
    (first | (go_at_call 124; refine (dot_any _ _ _ _ _ _ _ (by omega) (by omega) (by omega) (by omega) (by omega) (by omega)).mono ?_; rintro e w' ⟨rfl, hbx⟩) | (go_at_call 123; refine (mod_any b p _ _ (by exact (‹_ ∧ _›).1) (by omega) (by omega)).mono ?_; rintro e w' ⟨rfl, nq, rfl⟩))
  go_wp2
  go_ret
  obtain ⟨_, _, _, _, _, _, _, _, kb⟩ := ‹_ ∧ _›
  exact ⟨ret_bool HO.out.symm, kb⟩
/-- A list that rises. -/
def Rises (xs : List Int) : Prop := ∀ k, k < xs.length → (0 < k → xs.getD (k-1) 0 < xs.getD k 0)
instance (xs : List Int) : Decidable (Rises xs) := by unfold Rises; infer_instance
def risB (xs : List Int) : Bool := decide (Rises xs)
def setB (p : Int) (xs : List Int) : Bool := okB p xs && risB xs

set_option maxHeartbeats 2000000 in
theorem openSet_any (p : Int) (v : Value) (xs : List Int) (w : World) (h : Ints w v xs) :
    Calls Try.prog 91 #[.int .i64 p, v] w (OpenPost w p.toNat (setB p xs)) := by
  have HO := Lib.hid (open_any p v xs w h)
  obtain ⟨ao, cap, rfl, h1, h2, hx⟩ := h.open
  have HX := Lib.hid hx
  clear h hx
  cases hok : okB p xs with
  | false =>
    have hok' : (isP p && inB p.toNat xs) = false := hok
    rw [hok'] at HO
    have HS : Hid (setB p xs = false) := by unfold setB; rw [hok]; rfl
    clear hok hok' HX
    go_enter Try.func91, Try.ntmps91
    go_wp2_with fail
    refine HO.out.mono ?_
    intro e w1 hq
    obtain ⟨rfl, hbel⟩ := hq
    have HB := Lib.hid hbel
    clear hbel
    go_wp2
    go_ret2
    unfold OpenPost
    rw [HS.out]
    exact ⟨rfl, HB.out⟩
  | true =>
    have hok' : (isP p && inB p.toNat xs) = true := hok
    rw [hok'] at HO
    have HS : Hid (setB p xs = risB xs) := by unfold setB; rw [hok]; rfl
    clear hok hok'
    go_enter Try.func91, Try.ntmps91
    go_wp2_with fail
    refine HO.out.mono ?_
    intro e w1 hq
    obtain ⟨b, rfl, hb, hP, hbel⟩ := hq
    have HP := Lib.hid hP
    have HB := Lib.hid hbel
    clear hbel hP
    go_wp2_with fail
    go_loopw [8] (fun i wr => ∃ k : Nat, k ≤ max 1 xs.length ∧ 1 ≤ k ∧ i = .int .i64 k ∧ (∀ j : Nat, 0 < j → j < k → j < xs.length → xs.getD (j-1) 0 < xs.getD j 0) ∧ Below w1.heap.size w1 wr) (fun i _ => xs.length - (intOf i).toNat)
    case atStart => exact ⟨1, by omega, Nat.le_refl _, rfl, fun j h0 hj => absurd hj (by omega), Below.refl _ _⟩
    case round =>
      obtain ⟨k, hk, hk1, rfl, hall, hbel⟩ := hrel
      have HA := Lib.hid hall
      have HBl := Lib.hid hbel
      clear hall hbel
      by_cases hlt : k < xs.length
      · obtain ⟨bx, ox, rfl, hck⟩ := HX.out k hlt
        obtain ⟨bx', ox', heq, hcp⟩ := HX.out (k-1) (by omega)
        obtain ⟨rfl, rfl⟩ : bx = bx' ∧ ox = ox' := by simpa using heq
        have hck' := ck (ck hck HB.out) HBl.out
        have hcp' := ck (ck hcp HB.out) HBl.out
        have hidx : ((k:Int) - 1).toNat = k - 1 := by omega
        have hs : IntKind.i64.wrap ((k:Int) - 1) = (k:Int) - 1 := IntWalk.i64_in _ (by omega)
        have hge : 0 ≤ (k:Int) - 1 := by omega
        have hF : Hid (xs.getD k 0 ≤ xs.getD (k-1) 0 → risB xs = false) := fun h => decide_eq_false fun hr => by have := hr k hlt (by omega); omega
        have HN : Hid (xs.getD (k-1) 0 < xs.getD k 0 → ∀ j : Nat, 0 < j → j < k + 1 → j < xs.length → xs.getD (j-1) 0 < xs.getD j 0) := by
          intro h j h0 hj hl
          by_cases e : j = k
          · subst e; exact h
          · exact HA.out j h0 (by omega) hl
        clear hck hcp heq
        generalize xs.getD k 0 = z at *
        generalize xs.getD (k-1) 0 = y at *
        by_cases hzy : z ≤ y
        · have HF' := Lib.hid (hF.out hzy)
          have hd : decide (z ≤ y) = true := by simpa using hzy
          go_wp2_with fail
          go_quiet (fail)
          go_wp2
          go_ret2
          unfold OpenPost
          rw [HS.out, HF'.out]
          exact ⟨rfl, HB.out.trans ((below_drewN HBl.out _).mono HB.out.size)⟩
        · have HN' := Lib.hid (HN.out (by omega))
          have hd : decide (z ≤ y) = false := by simpa using hzy
          go_wp2_with fail
          go_quiet (fail)
          go_wp2
          go_roundw
          case rel => exact ⟨k + 1, by omega, by omega, by go_num, HN'.out, below_drewN HBl.out _⟩
          case measure => simp [intOf]; omega
      · have HT : Hid (risB xs = true) := decide_eq_true fun j hj h0 => HA.out j h0 (by omega) hj
        go_wp2
        go_ret2
        unfold OpenPost
        rw [HS.out, HT.out]
        exact ⟨b, rfl, hb, HP.out.below HBl.out (Nat.le_refl _), HB.out.trans (HBl.out.mono HB.out.size)⟩

/-- How many of some points are on a line. -/
def cntL (q : Nat) (xs : List Int) (l : Nat) : Nat := (xs.filter fun x => onB q x.toNat l).length
theorem cntL_zero (q : Nat) (xs : List Int) (l : Nat) : cntL q (xs.take 0) l = 0 := by simp [cntL]
theorem cntL_yes {q : Nat} {xs : List Int} {l k : Nat} (hk : k < xs.length) (h : onB q (xs.getD k 0).toNat l = true) : cntL q (xs.take (k+1)) l = cntL q (xs.take k) l + 1 := by
  rw [take_snoc xs k hk]; simp only [cntL, List.filter_append, List.filter_cons, List.filter_nil, h, List.length_append]; rfl
theorem cntL_no {q : Nat} {xs : List Int} {l k : Nat} (hk : k < xs.length) (h : onB q (xs.getD k 0).toNat l = false) : cntL q (xs.take (k+1)) l = cntL q (xs.take k) l := by
  rw [take_snoc xs k hk]; simp only [cntL, List.filter_append, List.filter_cons, List.filter_nil, h, List.length_append]; rfl
theorem cntL_le (q : Nat) (xs : List Int) (l : Nat) : cntL q xs l ≤ xs.length := List.length_filter_le _ _

/-- Numbers of points. -/
def InP (q : Nat) (xs : List Int) : Prop := ∀ k : Nat, k < xs.length → 0 ≤ xs.getD k 0 ∧ xs.getD k 0 < (np q : Nat)

set_option maxHeartbeats 2000000 in
theorem count_any (b q l : Nat) (v : Value) (xs : List Int) (w : World) (hP : PlaneAt w b q) (hq : isPn q) (hl : l < np q) (h : Ints w v xs) (hin : InP q xs) :
    Calls Try.prog 113 #[.pointer (some ⟨b, 0, none⟩), v, .int .i64 l] w fun e w' => e = .returned (.int .i64 (cntL q xs l)) ∧ Below w.heap.size w w' := by
  obtain ⟨ao, cap, rfl, h1, h2, hx⟩ := h.open
  have HX := Lib.hid hx
  have HOn := Lib.hid (fun i (hi : i < np q) (w : World) (hP : PlaneAt w b q) => on_any b q i l w hP hq hi hl)
  have HIn := Lib.hid hin
  have HP := Lib.hid hP
  clear h hx hP hin hl hq
  go_enter Try.func113, Try.ntmps113
  go_wp2
  go_loopw [7, 12] (fun s7 i wr => ∃ k : Nat, k ≤ xs.length ∧ i = .int .i64 k ∧ s7 = .int .i64 (cntL q (xs.take k) l) ∧ Below w.heap.size w wr) (fun _ i _ => xs.length - (intOf i).toNat)
  case atStart => exact ⟨0, Nat.zero_le _, rfl, by rw [cntL_zero]; rfl, Below.refl _ _⟩
  case round =>
    obtain ⟨k, hk, rfl, rfl, hbel⟩ := hrel
    have HB := Lib.hid hbel
    clear hbel
    have hcl := Nat.le_trans (cntL_le q (xs.take k) l) (List.length_take_le k xs)
    by_cases hlt : k < xs.length
    · obtain ⟨bx, ox, rfl, hck⟩ := HX.out k hlt
      have hck' := ck hck HB.out
      obtain ⟨i, hi⟩ := Int.eq_ofNat_of_zero_le (HIn.out k hlt).1
      have hiq : i < np q := by have := (HIn.out k hlt).2; omega
      have HC := Lib.hid (HOn.out i hiq wr (HP.out.below HB.out (Nat.le_refl _)))
      have HY := Lib.hid (fun h => cntL_yes (q := q) (l := l) hlt h)
      have HN := Lib.hid (fun h => cntL_no (q := q) (l := l) hlt h)
      rw [hi] at hck' HY HN
      rw [Int.toNat_natCast] at HY HN
      clear hck hi
      generalize cntL q (xs.take k) l = m at *
      cases ho : onB q i l with
      | true =>
        rw [ho] at HC
        have HY' := Lib.hid (HY.out ho)
        clear ho
        go_wp2_with fail
        refine HC.out.mono ?_
        rintro e w1 ⟨rfl, hb1⟩
        have HB1 := Lib.hid (HB.out.trans (hb1.mono HB.out.size))
        clear hb1
        go_wp2
        go_roundw
        case rel => exact ⟨k + 1, by omega, by go_num, by rw [HY'.out]; go_num, HB1.out⟩
        case measure => simp [intOf]; omega
      | false =>
        rw [ho] at HC
        have HN' := Lib.hid (HN.out ho)
        clear ho
        go_wp2_with fail
        refine HC.out.mono ?_
        rintro e w1 ⟨rfl, hb1⟩
        have HB1 := Lib.hid (HB.out.trans (hb1.mono HB.out.size))
        clear hb1
        go_wp2
        go_roundw
        case rel => exact ⟨k + 1, by omega, by go_num, by rw [HN'.out], HB1.out⟩
        case measure => simp [intOf]; omega
    · obtain rfl : k = xs.length := by omega
      rw [List.take_length]
      go_wp2
      go_ret
      exact ⟨rfl, HB.out⟩

theorem setB_of {p : Int} {xs : List Int} (h : setB p xs = true) : ∃ q : Nat, p = q ∧ isPn q ∧ InP q xs ∧ Rises xs := by
  simp only [setB, Bool.and_eq_true] at h
  obtain ⟨h1, h2⟩ := h
  have h3 : isP p = true ∧ inB p.toNat xs = true := by simpa [okB] using h1
  refine ⟨p.toNat, by have := isP_cases h3.1; omega, by have := isP_cases h3.1; unfold isPn; omega, fun k hk => ?_, of_decide_eq_true h2⟩
  have := (List.all_eq_true.1 h3.2) _ (getD_mem hk)
  simpa using this



/-- No three of some points are on one line. -/
def Arcs (q : Nat) (xs : List Int) : Prop := ∀ l, l < np q → cntL q xs l ≤ 2
instance (q : Nat) (xs : List Int) : Decidable (Arcs q xs) := by unfold Arcs; infer_instance
def arcB (q : Nat) (xs : List Int) : Bool := decide (Arcs q xs)

set_option maxHeartbeats 2000000 in
theorem noThree_any (b q : Nat) (v : Value) (xs : List Int) (w : World) (hP : PlaneAt w b q) (hq : isPn q) (h : Ints w v xs) (hin : InP q xs) :
    Calls Try.prog 92 #[.pointer (some ⟨b, 0, none⟩), v] w fun e w' => e = .returned (.bool (arcB q xs)) ∧ Below w.heap.size w w' := by
  have HC := Lib.hid (fun l (hl : l < np q) (w' : World) (hb : Below w.heap.size w w') => count_any b q l v xs w' (hP.below hb (Nat.le_refl _)) hq hl (h.below hb (Nat.le_refl _)) hin)
  have hn57 := np_le q hq.le.2
  obtain ⟨c, cap, _, c1, hcap, _⟩ := hP.open
  have HF : Hid (∀ l, l < np q → ¬ cntL q xs l ≤ 2 → arcB q xs = false) := fun l hl h => decide_eq_false fun ha => h (ha l hl)
  have HT : Hid ((∀ l, l < np q → cntL q xs l ≤ 2) → arcB q xs = true) := fun h => decide_eq_true h
  clear hP hq h hin
  generalize np q = m at *
  go_enter Try.func92, Try.ntmps92
  go_wp2_with fail
  go_loopw [11] (fun i wr => ∃ k : Nat, k ≤ m ∧ i = .int .i64 k ∧ (∀ l, l < k → cntL q xs l ≤ 2) ∧ Below w.heap.size w wr) (fun i _ => m - (intOf i).toNat)
  case atStart => exact ⟨0, Nat.zero_le _, rfl, fun l hl => absurd hl (by omega), Below.refl _ _⟩
  case round =>
    obtain ⟨k, hk, rfl, hall, hbel⟩ := hrel
    have HA := Lib.hid hall
    have HB := Lib.hid hbel
    clear hall hbel
    by_cases hlt : k < m
    · have HC' := Lib.hid (HC.out k hlt wr HB.out)
      by_cases h2 : cntL q xs k ≤ 2
      · have HN := Lib.hid (fun l (hl : l < k + 1) => if e : l = k then e ▸ h2 else HA.out l (by omega))
        generalize cntL q xs k = cc at *
        go_wp2_with fail
        refine HC'.out.mono ?_
        rintro e w1 ⟨rfl, hb1⟩
        have HB1 := Lib.hid (HB.out.trans (hb1.mono HB.out.size))
        clear hb1
        go_wp2
        go_roundw
        case rel => exact ⟨k + 1, by omega, by go_num, HN.out, HB1.out⟩
        case measure => simp [intOf]; omega
      · have HN := Lib.hid (HF.out k hlt h2)
        generalize cntL q xs k = cc at *
        go_wp2_with fail
        refine HC'.out.mono ?_
        rintro e w1 ⟨rfl, hb1⟩
        have HB1 := Lib.hid (HB.out.trans (hb1.mono HB.out.size))
        clear hb1
        go_wp2
        go_ret
        exact ⟨ret_bool HN.out.symm, HB1.out⟩
    · obtain rfl : k = m := by omega
      have HN := Lib.hid (HT.out HA.out)
      go_wp2
      go_ret
      exact ⟨ret_bool HN.out.symm, HB.out⟩

def ArcPost (w : World) (p : Int) (xs : List Int) (e : Ending) (w' : World) : Prop :=
  (if setB p xs = true then e = .returned (.tuple #[.bool (arcB p.toNat xs), .int .i64 0]) else e = .returned (.tuple #[.bool false, .int .i64 2])) ∧ Below w.heap.size w w'

set_option maxHeartbeats 2000000 in
theorem arc_any (p : Int) (v : Value) (xs : List Int) (w : World) (h : Ints w v xs) : Calls Try.prog 58 #[.int .i64 p, v] w (ArcPost w p xs) := by
  have HO := Lib.hid (openSet_any p v xs w h)
  cases hs : setB p xs with
  | false =>
    have HS := Lib.hid hs
    rw [hs] at HO
    clear hs
    go_enter Try.func58, Try.ntmps58
    go_wp2_with fail
    refine HO.out.mono ?_
    intro e w1 hq
    obtain ⟨rfl, hbel⟩ := hq
    have HB := Lib.hid hbel
    clear hbel
    go_wp2
    go_ret2
    unfold ArcPost
    rw [HS.out]
    exact ⟨rfl, HB.out⟩
  | true =>
    have HS := Lib.hid hs
    obtain ⟨q, rfl, hq, hin, _⟩ := setB_of hs
    have HN := Lib.hid (fun (b : Nat) (w1 : World) (hP : PlaneAt w1 b q) (hb : Below w.heap.size w w1) => noThree_any b q v xs w1 hP hq (h.below hb (Nat.le_refl _)) hin)
    rw [hs] at HO
    clear hs hq hin h
    go_enter Try.func58, Try.ntmps58
    go_wp2_with fail
    refine HO.out.mono ?_
    intro e w1 hq
    obtain ⟨b, rfl, hb, hP, hbel⟩ := hq
    have HB := Lib.hid hbel
    have HC := Lib.hid (HN.out b w1 hP hbel)
    clear hbel hP HN
    go_wp2_with fail
    refine HC.out.mono ?_
    rintro e w2 ⟨rfl, hb2⟩
    have HB2 := Lib.hid (HB.out.trans (hb2.mono HB.out.size))
    clear hb2
    go_wp2
    go_ret2
    unfold ArcPost
    rw [HS.out]
    exact ⟨rfl, HB2.out⟩

/-- What openArc gives: the plane, or the documented error. -/
def OpenArcPost (w : World) (p : Int) (xs : List Int) (e : Ending) (w' : World) : Prop :=
  if setB p xs = true then
    (if arcB p.toNat xs = true then ∃ b, e = .returned (.tuple #[.pointer (some ⟨b, 0, none⟩), .int .i64 0]) ∧ PlaneAt w' b p.toNat ∧ Below w.heap.size w w'
     else e = .returned (.tuple #[.pointer none, .int .i64 5]) ∧ Below w.heap.size w w')
  else e = .returned (.tuple #[.pointer none, .int .i64 2]) ∧ Below w.heap.size w w'

set_option maxHeartbeats 2000000 in
theorem openArc_any (p : Int) (v : Value) (xs : List Int) (w : World) (h : Ints w v xs) : Calls Try.prog 93 #[.int .i64 p, v] w (OpenArcPost w p xs) := by
  have HO := Lib.hid (openSet_any p v xs w h)
  cases hs : setB p xs with
  | false =>
    have HS := Lib.hid hs
    rw [hs] at HO
    clear hs
    go_enter Try.func93, Try.ntmps93
    go_wp2_with fail
    refine HO.out.mono ?_
    intro e w1 hq
    obtain ⟨rfl, hbel⟩ := hq
    have HB := Lib.hid hbel
    clear hbel
    go_wp2
    go_ret2
    unfold OpenArcPost
    rw [HS.out]
    exact ⟨rfl, HB.out⟩
  | true =>
    have HS := Lib.hid hs
    obtain ⟨q, rfl, hq, hin, _⟩ := setB_of hs
    have HN := Lib.hid (fun (b : Nat) (w1 : World) (hP : PlaneAt w1 b q) (hb : Below w.heap.size w w1) => noThree_any b q v xs w1 hP hq (h.below hb (Nat.le_refl _)) hin)
    rw [hs] at HO
    clear hs hq hin h
    cases ha : arcB q xs with
    | true =>
      have HAr := Lib.hid ha
      rw [ha] at HN
      clear ha
      go_enter Try.func93, Try.ntmps93
      go_wp2_with fail
      refine HO.out.mono ?_
      intro e w1 hq
      obtain ⟨b, rfl, hb, hP, hbel⟩ := hq
      have HB := Lib.hid hbel
      have HP : Hid (PlaneAt w1 b q) := hP
      have HC := Lib.hid (HN.out b w1 hP hbel)
      clear hbel hP HN
      go_wp2_with fail
      refine HC.out.mono ?_
      rintro e w2 ⟨rfl, hb2⟩
      have HP2 := Lib.hid (HP.out.below hb2 (Nat.le_refl _))
      have HB2 := Lib.hid (HB.out.trans (hb2.mono HB.out.size))
      clear hb2
      go_wp2
      go_ret2
      unfold OpenArcPost
      rw [if_pos HS.out, Int.toNat_natCast, if_pos HAr.out]
      exact ⟨b, rfl, HP2.out, HB2.out⟩
    | false =>
      have HAr := Lib.hid ha
      rw [ha] at HN
      clear ha
      go_enter Try.func93, Try.ntmps93
      go_wp2_with fail
      refine HO.out.mono ?_
      intro e w1 hq
      obtain ⟨b, rfl, hb, hP, hbel⟩ := hq
      have HB := Lib.hid hbel
      have HC := Lib.hid (HN.out b w1 hP hbel)
      clear hbel hP HN
      go_wp2_with fail
      refine HC.out.mono ?_
      rintro e w2 ⟨rfl, hb2⟩
      have HB2 := Lib.hid (HB.out.trans (hb2.mono HB.out.size))
      clear hb2
      go_wp2
      go_ret2
      unfold OpenArcPost
      rw [if_pos HS.out, Int.toNat_natCast, if_neg (by rw [HAr.out]; simp)]
      exact ⟨rfl, HB2.out⟩

end Go.Proofs.Ytlalfjkenkmojaa.Ar
