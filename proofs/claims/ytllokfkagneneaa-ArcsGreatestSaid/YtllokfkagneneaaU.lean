/- sets: openSet, count, linesWith, Blocks, Miss -/
import Derived.Test.YtllokfkagneneaaL
import Derived.Test.YtllokfkagneneaaF
namespace Go.Proofs.Ytllokfkagneneaa
open Go.RowKit

theorem newOne (w : World) (x : Value) (t : TypeId) : ∀ (j : Nat) (u : Value), [x][j]? = some u → (w.alloc (.cells #[x] t)).cell? ((⟨w.heap.size, 0, none⟩ : Addr).add j) = some u := by
  intro j u hj
  match j, hj with
  | 0, hj => simp at hj; subst hj; simp [Addr.add]
theorem oneInt (x : Int) : ∀ u ∈ [Value.int .i64 x], u.oneCell' = true := by
  intro u hu; simp at hu; subst hu; rfl
theorem Try.info3 : (Try.prog.info? 3).map (fun i => (i.zero, i.size, i.bytes)) = some (some (.int .i64 0), 1, 8) := by kernel_rfl

/-- A list that rises. -/
def Rises (xs : List Int) : Prop := ∀ k, k < xs.length → (0 < k → xs.getD (k-1) 0 < xs.getD k 0)
instance (xs : List Int) : Decidable (Rises xs) := by unfold Rises; infer_instance
def risB (xs : List Int) : Bool := decide (Rises xs)
def setB (p : Int) (xs : List Int) : Bool := okB p xs && risB xs

set_option maxHeartbeats 2000000 in
theorem openSet_any (p : Int) (v : Value) (xs : List Int) (w : World) (h : Ints w v xs) :
    Calls Try.prog 75 #[.int .i64 p, v] w (OpenPost w p.toNat (setB p xs)) := by
  have HO := Lib.hid (open_any p v xs w h)
  obtain ⟨ao, cap, rfl, h1, h2, hx⟩ := h.open
  have HX := Lib.hid hx
  clear h hx
  cases hok : okB p xs with
  | false =>
    have hok' : (isP p && inB p.toNat xs) = false := hok
    rw [hok'] at HO
    have HS : Hid (setB p xs = false) := by unfold setB; rw [hok]; rfl
    clear hok hok' HX
    go_enter Try.func75, Try.ntmps75
    go_wp2_with fail
    refine HO.out.mono ?_
    intro e w1 hq
    obtain ⟨rfl, hbel⟩ := hq
    have HB := Lib.hid hbel
    clear hbel
    go_wp2
    go_ret2
    unfold OpenPost
    rw [HS.out]
    exact ⟨rfl, HB.out⟩
  | true =>
    have hok' : (isP p && inB p.toNat xs) = true := hok
    rw [hok'] at HO
    have HS : Hid (setB p xs = risB xs) := by unfold setB; rw [hok]; rfl
    clear hok hok'
    go_enter Try.func75, Try.ntmps75
    go_wp2_with fail
    refine HO.out.mono ?_
    intro e w1 hq
    obtain ⟨b, rfl, hb, hP, hbel⟩ := hq
    have HP := Lib.hid hP
    have HB := Lib.hid hbel
    clear hbel hP
    go_wp2_with fail
    go_loopw [8] (fun i wr => ∃ k : Nat, k ≤ max 1 xs.length ∧ 1 ≤ k ∧ i = .int .i64 k ∧ (∀ j : Nat, 0 < j → j < k → j < xs.length → xs.getD (j-1) 0 < xs.getD j 0) ∧ Below w1.heap.size w1 wr) (fun i _ => xs.length - (intOf i).toNat)
    case atStart => exact ⟨1, by omega, Nat.le_refl _, rfl, fun j h0 hj => absurd hj (by omega), Below.refl _ _⟩
    case round =>
      obtain ⟨k, hk, hk1, rfl, hall, hbel⟩ := hrel
      have HA := Lib.hid hall
      have HBl := Lib.hid hbel
      clear hall hbel
      by_cases hlt : k < xs.length
      · obtain ⟨bx, ox, rfl, hck⟩ := HX.out k hlt
        obtain ⟨bx', ox', heq, hcp⟩ := HX.out (k-1) (by omega)
        obtain ⟨rfl, rfl⟩ : bx = bx' ∧ ox = ox' := by simpa using heq
        have hck' := ck (ck hck HB.out) HBl.out
        have hcp' := ck (ck hcp HB.out) HBl.out
        have hidx : ((k:Int) - 1).toNat = k - 1 := by omega
        have hs : IntKind.i64.wrap ((k:Int) - 1) = (k:Int) - 1 := IntWalk.i64_in _ (by omega)
        have hge : 0 ≤ (k:Int) - 1 := by omega
        have hF : Hid (xs.getD k 0 ≤ xs.getD (k-1) 0 → risB xs = false) := fun h => decide_eq_false fun hr => by have := hr k hlt (by omega); omega
        have HN : Hid (xs.getD (k-1) 0 < xs.getD k 0 → ∀ j : Nat, 0 < j → j < k + 1 → j < xs.length → xs.getD (j-1) 0 < xs.getD j 0) := by
          intro h j h0 hj hl
          by_cases e : j = k
          · subst e; exact h
          · exact HA.out j h0 (by omega) hl
        clear hck hcp heq
        generalize xs.getD k 0 = z at *
        generalize xs.getD (k-1) 0 = y at *
        by_cases hzy : z ≤ y
        · have HF' := Lib.hid (hF.out hzy)
          have hd : decide (z ≤ y) = true := by simpa using hzy
          go_wp2_with fail
          go_quiet (fail)
          go_wp2
          go_ret2
          unfold OpenPost
          rw [HS.out, HF'.out]
          exact ⟨rfl, HB.out.trans ((below_drewN HBl.out _).mono HB.out.size)⟩
        · have HN' := Lib.hid (HN.out (by omega))
          have hd : decide (z ≤ y) = false := by simpa using hzy
          go_wp2_with fail
          go_quiet (fail)
          go_wp2
          go_roundw
          case rel => exact ⟨k + 1, by omega, by omega, by go_num, HN'.out, below_drewN HBl.out _⟩
          case measure => simp [intOf]; omega
      · have HT : Hid (risB xs = true) := decide_eq_true fun j hj h0 => HA.out j h0 (by omega) hj
        go_wp2
        go_ret2
        unfold OpenPost
        rw [HS.out, HT.out]
        exact ⟨b, rfl, hb, HP.out.below HBl.out (Nat.le_refl _), HB.out.trans (HBl.out.mono HB.out.size)⟩

/-- How many of some points are on a line. -/
def cntL (q : Nat) (xs : List Int) (l : Nat) : Nat := (xs.filter fun x => onB q x.toNat l).length
theorem cntL_zero (q : Nat) (xs : List Int) (l : Nat) : cntL q (xs.take 0) l = 0 := by simp [cntL]
theorem cntL_yes {q : Nat} {xs : List Int} {l k : Nat} (hk : k < xs.length) (h : onB q (xs.getD k 0).toNat l = true) : cntL q (xs.take (k+1)) l = cntL q (xs.take k) l + 1 := by
  rw [take_snoc xs k hk]; simp only [cntL, List.filter_append, List.filter_cons, List.filter_nil, h, List.length_append]; rfl
theorem cntL_no {q : Nat} {xs : List Int} {l k : Nat} (hk : k < xs.length) (h : onB q (xs.getD k 0).toNat l = false) : cntL q (xs.take (k+1)) l = cntL q (xs.take k) l := by
  rw [take_snoc xs k hk]; simp only [cntL, List.filter_append, List.filter_cons, List.filter_nil, h, List.length_append]; rfl
theorem cntL_le (q : Nat) (xs : List Int) (l : Nat) : cntL q xs l ≤ xs.length := List.length_filter_le _ _

/-- Numbers of points. -/
def InP (q : Nat) (xs : List Int) : Prop := ∀ k : Nat, k < xs.length → 0 ≤ xs.getD k 0 ∧ xs.getD k 0 < (np q : Nat)

set_option maxHeartbeats 2000000 in
theorem count_any (b q l : Nat) (v : Value) (xs : List Int) (w : World) (hP : PlaneAt w b q) (hq : isPn q) (hl : l < np q) (h : Ints w v xs) (hin : InP q xs) :
    Calls Try.prog 114 #[.pointer (some ⟨b, 0, none⟩), v, .int .i64 l] w fun e w' => e = .returned (.int .i64 (cntL q xs l)) ∧ Below w.heap.size w w' := by
  obtain ⟨ao, cap, rfl, h1, h2, hx⟩ := h.open
  have HX := Lib.hid hx
  have HOn := Lib.hid (fun i (hi : i < np q) (w : World) (hP : PlaneAt w b q) => on_any b q i l w hP hq hi hl)
  have HIn := Lib.hid hin
  have HP := Lib.hid hP
  clear h hx hP hin hl hq
  go_enter Try.func114, Try.ntmps114
  go_wp2
  go_loopw [7, 12] (fun s7 i wr => ∃ k : Nat, k ≤ xs.length ∧ i = .int .i64 k ∧ s7 = .int .i64 (cntL q (xs.take k) l) ∧ Below w.heap.size w wr) (fun _ i _ => xs.length - (intOf i).toNat)
  case atStart => exact ⟨0, Nat.zero_le _, rfl, by rw [cntL_zero]; rfl, Below.refl _ _⟩
  case round =>
    obtain ⟨k, hk, rfl, rfl, hbel⟩ := hrel
    have HB := Lib.hid hbel
    clear hbel
    have hcl := Nat.le_trans (cntL_le q (xs.take k) l) (List.length_take_le k xs)
    by_cases hlt : k < xs.length
    · obtain ⟨bx, ox, rfl, hck⟩ := HX.out k hlt
      have hck' := ck hck HB.out
      obtain ⟨i, hi⟩ := Int.eq_ofNat_of_zero_le (HIn.out k hlt).1
      have hiq : i < np q := by have := (HIn.out k hlt).2; omega
      have HC := Lib.hid (HOn.out i hiq wr (HP.out.below HB.out (Nat.le_refl _)))
      have HY := Lib.hid (fun h => cntL_yes (q := q) (l := l) hlt h)
      have HN := Lib.hid (fun h => cntL_no (q := q) (l := l) hlt h)
      rw [hi] at hck' HY HN
      rw [Int.toNat_natCast] at HY HN
      clear hck hi
      generalize cntL q (xs.take k) l = m at *
      cases ho : onB q i l with
      | true =>
        rw [ho] at HC
        have HY' := Lib.hid (HY.out ho)
        clear ho
        go_wp2_with fail
        refine HC.out.mono ?_
        rintro e w1 ⟨rfl, hb1⟩
        have HB1 := Lib.hid (HB.out.trans (hb1.mono HB.out.size))
        clear hb1
        go_wp2
        go_roundw
        case rel => exact ⟨k + 1, by omega, by go_num, by rw [HY'.out]; go_num, HB1.out⟩
        case measure => simp [intOf]; omega
      | false =>
        rw [ho] at HC
        have HN' := Lib.hid (HN.out ho)
        clear ho
        go_wp2_with fail
        refine HC.out.mono ?_
        rintro e w1 ⟨rfl, hb1⟩
        have HB1 := Lib.hid (HB.out.trans (hb1.mono HB.out.size))
        clear hb1
        go_wp2
        go_roundw
        case rel => exact ⟨k + 1, by omega, by go_num, by rw [HN'.out], HB1.out⟩
        case measure => simp [intOf]; omega
    · obtain rfl : k = xs.length := by omega
      rw [List.take_length]
      go_wp2
      go_ret
      exact ⟨rfl, HB.out⟩

/-- The lines that have just n of some points. -/
def linesW (q : Nat) (n : Int) (xs : List Int) (k : Nat) : List Int := ((List.range k).filter fun l => decide ((cntL q xs l : Int) = n)).map fun (l : Nat) => (l : Int)
theorem linesW_yes {q : Nat} {n : Int} {xs : List Int} {k : Nat} (h : (cntL q xs k : Int) = n) : linesW q n xs (k+1) = linesW q n xs k ++ [(k : Int)] := by
  simp [linesW, List.range_succ, List.filter_append, h]
theorem linesW_no {q : Nat} {n : Int} {xs : List Int} {k : Nat} (h : ¬ (cntL q xs k : Int) = n) : linesW q n xs (k+1) = linesW q n xs k := by
  simp [linesW, List.range_succ, List.filter_append, h]
theorem linesW_le (q : Nat) (n : Int) (xs : List Int) (k : Nat) : (linesW q n xs k).length ≤ k := by
  have := List.length_filter_le (fun l => decide ((cntL q xs l : Int) = n)) (List.range k)
  simpa [linesW] using this

theorem int_step {w wr w1 : World} {B : Nat} {v v' : Value} {xs : List Int} {x : Int} {o : Obj} (hown : wr.ownsRow B 3 1 v xs.length (ints xs)) (hnx : Below B w wr) (hB : B ≤ wr.heap.size)
    (hown' : w1.ownsRow B 3 1 v' (xs.length + 1) (ints xs ++ [.int .i64 x])) (hg : (wr.alloc o).grownBy w1 v.ownBlock) :
    w1.ownsRow B 3 1 v' (xs ++ [x]).length (ints (xs ++ [x])) ∧ Below B w w1 := by
  refine ⟨by simpa [ints] using hown', (hnx.alloc hB _).grown hg (by simp; omega) fun k hk => (hown.lt k hk).1⟩

set_option maxHeartbeats 2000000 in
theorem linesWith_any (b q : Nat) (n : Int) (v : Value) (xs : List Int) (w : World) (hP : PlaneAt w b q) (hq : isPn q) (h : Ints w v xs) (hin : InP q xs) :
    Calls Try.prog 85 #[.pointer (some ⟨b, 0, none⟩), .int .i64 n, v] w fun e w' => ∃ v', e = .returned v' ∧ w'.ownsRow w.heap.size 3 1 v' (linesW q n xs (np q)).length (ints (linesW q n xs (np q))) ∧ Below w.heap.size w w' := by
  have HC := Lib.hid (fun l (hl : l < np q) (w' : World) (hb : Below w.heap.size w w') => count_any b q l v xs w' (hP.below hb (Nat.le_refl _)) hq hl (h.below hb (Nat.le_refl _)) hin)
  obtain ⟨i0, hi, hz0, hz1, hz2⟩ := info_parts Try.info3
  have hn57 := np_le q hq.le.2
  obtain ⟨c, cap, _, c1, hcap, _⟩ := hP.open
  clear hP hq h hin
  generalize np q = m at *
  go_enter Try.func85, Try.ntmps85
  go_wp2_with fail
  go_loopw [7, 14] (fun s7 i wr => ∃ k : Nat, k ≤ m ∧ i = .int .i64 k ∧ wr.ownsRow w.heap.size 3 1 s7 (linesW q n xs k).length (ints (linesW q n xs k)) ∧ Below w.heap.size w wr) (fun _ i _ => m - (intOf i).toNat)
  case atStart => exact ⟨0, Nat.zero_le _, rfl, World.ownsRow_nil _ _ _ _, Below.refl _ _⟩
  case round =>
    obtain ⟨k, hk, rfl, hown, hbel⟩ := hrel
    have HO := Lib.hid hown
    have HB := Lib.hid hbel
    have hll := linesW_le q n xs k
    clear hown hbel
    by_cases hlt : k < m
    · have HC' := Lib.hid (HC.out k hlt wr HB.out)
      have HY := Lib.hid (fun h => linesW_yes (q := q) (n := n) (xs := xs) (k := k) h)
      have HN := Lib.hid (fun h => linesW_no (q := q) (n := n) (xs := xs) (k := k) h)
      generalize linesW q n xs k = ls at *
      by_cases he : (cntL q xs k : Int) = n
      · have HY' := Lib.hid (HY.out he)
        have hd : ((cntL q xs k : Int) == n) = true := by simpa using he
        clear he HY HN
        generalize cntL q xs k = cc at *
        go_wp2_with fail
        refine HC'.out.mono ?_
        rintro e w1 ⟨rfl, hb1⟩
        have HB1 := Lib.hid (HB.out.trans (hb1.mono HB.out.size))
        have HO1 := Lib.hid (owns_below HO.out hb1 (Nat.le_refl _))
        clear hb1
        go_wp2_with (at_builtin; refine wpList_append_own _ rfl _ _ 38 rfl w.heap.size 3 i0 (.int .i64 0) 1 8 Try.underlying38 hi hz0 hz1 hz2 rfl (by decide) _ _ _ rfl (HO1.out.alloc _) ⟨w1.heap.size, 0, none⟩ 1 1 [.int .i64 k] rfl rfl (newOne _ _ _) (oneInt _) (by unfold maxLen; omega) (by omega) (by have := HB1.out.size; simp; omega) ?_)
        intro v' w2 hown' hgrow _
        have HR := Lib.hid (int_step HO1.out HB1.out HB1.out.size hown' hgrow)
        clear hown' hgrow
        go_wp2
        go_roundw
        case rel => exact ⟨k + 1, by omega, by go_num, by rw [HY'.out]; exact HR.out.1, HR.out.2⟩
        case measure => simp [intOf]; omega
      · have HN' := Lib.hid (HN.out he)
        have hd : ((cntL q xs k : Int) == n) = false := by simpa using he
        clear he HY HN
        generalize cntL q xs k = cc at *
        go_wp2_with fail
        refine HC'.out.mono ?_
        rintro e w1 ⟨rfl, hb1⟩
        have HB1 := Lib.hid (HB.out.trans (hb1.mono HB.out.size))
        have HO1 := Lib.hid (owns_below HO.out hb1 (Nat.le_refl _))
        clear hb1
        go_wp2
        go_roundw
        case rel => exact ⟨k + 1, by omega, by go_num, by rw [HN'.out]; exact HO1.out, HB1.out⟩
        case measure => simp [intOf]; omega
    · obtain rfl : k = m := by omega
      go_wp2
      go_ret
      exact ⟨_, rfl, HO.out, HB.out⟩
end Go.Proofs.Ytllokfkagneneaa
