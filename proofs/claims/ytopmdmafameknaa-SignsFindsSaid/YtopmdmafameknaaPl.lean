/- plant: a matrix from a closure -/
import Derived.Test.YtopmdmafameknaaSb
namespace Go.Proofs.Ytopmdmafameknaa
open Go.RowKit
theorem mk_cells (c : Nat) : (madeCells (Value.int .i64 0).cells (c * 1)) = (ints (List.replicate c 0)).toArray := by
  have := toList_madeCells_one (Value.int .i64 0) c
  simp only [Value.cells, Nat.mul_one]
  rw [← Array.toArray_toList (xs := madeCells #[Value.int .i64 0] c), this]
  simp [ints]
theorem run_make22 (p n : Nat) (hp : p ≤ n) (hn : n ≤ 100000) (W : World) : (Instr.makeSlice 22 (.int .i64 p) (.int .i64 n)).run Try.prog W = .ok (.slice (some ⟨W.heap.size, 0, none⟩) p n) (W.alloc (.cells (ints (List.replicate n 0)).toArray 3)) := by
  obtain ⟨i3, hi3, hz0, hz1, hz2⟩ := info_parts Try.info3
  have h := run_make (P := Try.prog) W 22 3 i3 (.int .i64 0) Try.underlying22 hi3 hz0 .i64 .i64 (p : Int) (n : Int) (by omega) (by omega) (by rw [hz2]; omega) (by omega)
  rw [h, hz1]
  simp only [Int.toNat_natCast]
  rw [mk_cells]

/-- The number whose first n bits are told by f. -/
def mk : Nat → (Nat → Bool) → Nat
  | 0, _ => 0
  | n+1, f => mk n f ||| (if f n then 2 ^ n else 0)
theorem mk_lt (n : Nat) (f : Nat → Bool) : mk n f < 2 ^ n := by
  induction n with
  | zero => exact Nat.one_pos
  | succ n ih =>
    refine Nat.or_lt_two_pow (Nat.lt_of_lt_of_le ih (Nat.pow_le_pow_right (by decide) (by omega))) ?_
    split
    · exact Nat.pow_lt_pow_right (by decide) (by omega)
    · exact Nat.two_pow_pos _
theorem mk_bit (n : Nat) (f : Nat → Bool) (j : Nat) : (mk n f).testBit j = (decide (j < n) && f j) := by
  induction n with
  | zero => simp [mk]
  | succ n ih =>
    rw [mk, Nat.testBit_or, ih]
    by_cases e : j = n
    · subst e
      cases h : f j <;> simp
    · have hd : decide (j < n + 1) = decide (j < n) := by
        by_cases h : j < n
        · rw [decide_eq_true h, decide_eq_true (by omega)]
        · rw [decide_eq_false h, decide_eq_false (by omega)]
      rw [hd]
      cases h : f n
      · simp
      · simp [show n ≠ j from fun h => e h.symm]
theorem mk_yes {n : Nat} {f : Nat → Bool} (h : f n = true) : mk (n+1) f = mk n f ||| 2 ^ n := by simp [mk, h]
theorem mk_no {n : Nat} {f : Nat → Bool} (h : f n = false) : mk (n+1) f = mk n f := by simp [mk, h]
theorem mk_ext {n : Nat} {f : Nat → Bool} {x : Nat} (hx : x < 2 ^ n) (h : ∀ j, j < n → x.testBit j = f j) : mk n f = x := by
  refine Nat.eq_of_testBit_eq fun j => ?_
  rw [mk_bit]
  by_cases hj : j < n
  · simp [hj, h j hj]
  · simp [hj, Nat.testBit_lt_two_pow (Nat.lt_of_lt_of_le hx (Nat.pow_le_pow_right (by decide) (show n ≤ j by omega)))]
theorem mk_congr {n : Nat} {f g : Nat → Bool} (h : ∀ j, j < n → f j = g j) : mk n f = mk n g :=
  mk_ext (mk_lt n g) fun j hj => by rw [mk_bit]; simp [hj, h j hj]

/-- The matrix of n rows and columns that f tells. -/
def plantL (n : Nat) (f : Nat → Nat → Bool) : List Nat := (List.range n).map fun i => mk n (f i)
/-- What is filled in behind i rows and j entries. -/
def plPart (n m : Nat) (f : Nat → Nat → Bool) (i j : Nat) : List Nat := (List.range n).map fun a => if a < i then mk m (f a) else if a = i then mk j (f a) else 0
theorem plPart_zero (n m : Nat) (f : Nat → Nat → Bool) : nats (plPart n m f 0 0) = List.replicate n 0 := by
  refine List.ext_getElem (by simp [nats, plPart]) fun k h1 h2 => ?_
  simp [nats, plPart, mk]
theorem plPart_next (n m : Nat) (f : Nat → Nat → Bool) (i : Nat) : plPart n m f i m = plPart n m f (i+1) 0 := by
  refine List.map_congr_left fun a _ => ?_
  by_cases h : a < i
  · rw [if_pos h, if_pos (by omega)]
  · rw [if_neg h]
    by_cases e : a = i
    · subst e; rw [if_pos rfl, if_pos (by omega)]
    · rw [if_neg e, if_neg (by omega)]
      split <;> simp [mk]
theorem plPart_end (n m : Nat) (f : Nat → Nat → Bool) : plPart n m f n 0 = (List.range n).map fun i => mk m (f i) := by
  refine List.map_congr_left fun a ha => ?_
  rw [if_pos (List.mem_range.1 ha)]
theorem plPart_length (n m : Nat) (f : Nat → Nat → Bool) (i j : Nat) : (plPart n m f i j).length = n := by simp [plPart]
theorem plPart_get (n m : Nat) (f : Nat → Nat → Bool) (i j : Nat) (hi : i < n) : (plPart n m f i j).getD i 0 = mk j (f i) := by simp [plPart, hi]
theorem plPart_yes (n m : Nat) (f : Nat → Nat → Bool) (i j : Nat) (h : f i j = true) : (plPart n m f i j).set i (mk j (f i) ||| 2 ^ j) = plPart n m f i (j+1) := by
  refine List.ext_getElem (by simp [plPart]) fun k h1 h2 => ?_
  rw [List.getElem_set]
  split
  · rename_i e; subst e; simp [plPart, mk_yes h]
  · rename_i e; simp [plPart, show k ≠ i from fun h => e h.symm]
theorem plPart_no (n m : Nat) (f : Nat → Nat → Bool) (i j : Nat) (h : f i j = false) : plPart n m f i j = plPart n m f i (j+1) := by
  refine List.map_congr_left fun a _ => ?_
  by_cases e : a = i
  · subst e; rw [mk_no h]
  · rw [if_neg e, if_neg e]
theorem plant_length (n : Nat) (f : Nat → Nat → Bool) : (plantL n f).length = n := by simp [plantL]
theorem plant_get {n i : Nat} {f : Nat → Nat → Bool} (h : i < n) : (plantL n f).getD i 0 = mk n (f i) := by simp [plantL, h]
theorem plant_congr {n : Nat} {f g : Nat → Nat → Bool} (h : ∀ i j, i < n → j < n → f i j = g i j) : plantL n f = plantL n g :=
  List.map_congr_left fun i hi => mk_congr fun j hj => h i j (List.mem_range.1 hi) hj
theorem plant_mat {n : Nat} (f : Nat → Nat → Bool) (h : 1 ≤ n) (h' : n ≤ 16) : Mat n (plantL n f) :=
  ⟨plant_length n f, h, h', fun x hx => by obtain ⟨i, _, rfl⟩ := List.mem_map.1 hx; exact mk_lt _ _⟩

/-- A block of ints that a call has made. -/
def NatBlk (w : World) (g : Nat) (hs : List Nat) : Prop := w.heap[g]? = some (.cells (ints (nats hs)).toArray 3 (0, 0))
theorem heap_set_at {w : World} {b k : Nat} {cs : Array Value} {t : TypeId} {fr : Nat × Nat} (h : w.heap[b]? = some (.cells cs t fr)) (v : Value) :
    (w.setCell ⟨b, k, none⟩ v).heap[b]? = some (.cells (cs.setIfInBounds k v) t fr) := by
  simp [World.setCell, Array.getElem?_modify, h]
theorem NatBlk.set {w : World} {g : Nat} {hs : List Nat} (h : NatBlk w g hs) (k x : Nat) : NatBlk (w.setCell ⟨g, k, none⟩ (.int .i64 x)) g (hs.set k x) := by
  unfold NatBlk; rw [heap_set_at h]; simp [ints, nats, List.map_set]
theorem NatBlk.below {w w' : World} {g : Nat} {hs : List Nat} (h : NatBlk w g hs) (hb : Below w.heap.size w w') : NatBlk w' g hs := (hb.block g (lt_of_block h)).trans h
theorem NatBlk.cell {w : World} {g : Nat} {hs : List Nat} (h : NatBlk w g hs) {k : Nat} (hk : k < hs.length) : w.cell? ⟨g, k, none⟩ = some (.int .i64 (hs.getD k 0 : Nat)) ∧ w.frozen? ⟨g, k, none⟩ = false := by
  constructor
  · simp only [World.cell?, show w.heap[g]? = _ from h]
    simp [ints, nats, hk]
  · simp [World.frozen?, show w.heap[g]? = _ from h]
theorem NatBlk.nats {w : World} {g : Nat} {hs : List Nat} (h : NatBlk w g hs) (hl : hs.length ≤ 1000000) (hb : ∀ x ∈ hs, x < 65536) : Nats w (.slice (some ⟨g, 0, none⟩) hs.length hs.length) hs := by
  refine ⟨⟨_, hs.length, by rw [ints_length, nats_length], by rw [ints_length, nats_length]; exact Nat.le_refl _, by rw [ints_length, nats_length]; omega, by unfold maxLen; omega, .inr ⟨g, 0, rfl, lt_of_block h, fun j x hx => ?_⟩⟩, fun x hx => ?_⟩
  · have hj := (List.getElem?_eq_some_iff.1 hx).1
    rw [ints_length, nats_length] at hj
    rw [Nat.zero_add, (h.cell hj).1, ← hx]
    simp [ints, Go.Proofs.Ytopmdmafameknaa.nats, hj]
  · obtain ⟨y, hy, rfl⟩ := List.mem_map.1 hx
    have := hb y hy
    unfold I64; omega
theorem NatBlk.start (w : World) (hs : List Nat) : NatBlk (w.alloc (.cells (ints (Go.Proofs.Ytopmdmafameknaa.nats hs)).toArray 3)) w.heap.size hs := heap_alloc_new w _

/-- The closure N, with what it has caught, tells f of numbers below n. -/
structure Tells (N : Nat) (cs : Array Value) (n : Nat) (f : Nat → Nat → Bool) (w : World) : Prop where
  enter : ∀ (args : Array Value) (w : World), (callFunc N args).run Try.prog w = .ok (.enter N args) w
  call : ∀ (i j : Nat) (w' : World), i < n → j < n → Below w.heap.size w w' → Calls Try.prog N (#[.int .i64 i, .int .i64 j] ++ cs) w' fun e w'' => e = .returned (.bool (f i j)) ∧ Below w'.heap.size w' w''

theorem or_pw (x l : Nat) (hx : x < 65536) (hl : l < 16) : bits .or .i64 (x:Int) ((2:Int) ^ l) = ((x ||| 2 ^ l : Nat) : Int) := by
  have h := pw_nat l (by omega)
  rw [← pw_cast]
  exact i64_or _ _ (by omega) (by omega)

set_option maxHeartbeats 2000000 in
set_option maxRecDepth 100000 in
theorem plant_any (n N : Nat) (cs : Array Value) (f : Nat → Nat → Bool) (w : World) (hn : n ≤ 16) (hT : Tells N cs n f w) :
    Calls Try.prog 71 #[.int .i64 n, .func (.func N) #[] cs] w fun e w' => e = .returned (.slice (some ⟨w.heap.size, 0, none⟩) n n) ∧ NatBlk w' w.heap.size (plantL n f) ∧ Below w.heap.size w w' := by
  have hmk := run_make22 n n (Nat.le_refl _) (by omega)
  have hent := hT.enter
  have HC := Lib.hid hT.call
  have HZ : Hid (List.replicate n (0:Int) = nats (plPart n n f 0 0)) := (plPart_zero n n f).symm
  clear hT
  go_enter Try.func71, Try.ntmps71
  go_wp2_with fail
  go_loopw [11] (fun i wr => ∃ k : Nat, k ≤ n ∧ i = .int .i64 k ∧ NatBlk wr w.heap.size (plPart n n f k 0) ∧ Below w.heap.size w wr) (fun i _ => n - (intOf i).toNat)
  case atStart => exact ⟨0, Nat.zero_le _, rfl, by rw [HZ.out]; exact NatBlk.start w _, (Below.refl _ _).alloc (Nat.le_refl _) _⟩
  case round =>
    obtain ⟨k, hk, rfl, hB, hb⟩ := hrel
    have HNB := Lib.hid hB
    have HB := Lib.hid hb
    clear hB hb
    by_cases hlt : k < n
    · go_wp2_with fail
      go_loopw [15] (fun i wr => ∃ l : Nat, l ≤ n ∧ i = .int .i64 l ∧ NatBlk wr w.heap.size (plPart n n f k l) ∧ Below w.heap.size w wr) (fun i _ => n - (intOf i).toNat)
      case atStart => exact ⟨0, Nat.zero_le _, rfl, HNB.out, HB.out⟩
      case round =>
        clear HNB HB
        obtain ⟨l, hl, rfl, hB, hb⟩ := hrel
        have HNB := Lib.hid hB
        have HB := Lib.hid hb
        clear hB hb
        by_cases hltl : l < n
        · have HC' := Lib.hid (HC.out k l wr hlt hltl HB.out)
          have hpw := wrap_pw l (by omega)
          cases hf : f k l with
          | true =>
            rw [hf] at HC'
            have HY := Lib.hid (plPart_yes n n f k l hf)
            clear hf
            go_wp2_with fail
            refine HC'.out.mono ?_
            rintro e w1 ⟨rfl, hb1⟩
            have HB1 := Lib.hid (HB.out.trans (hb1.mono HB.out.size))
            have HNB1 := Lib.hid (HNB.out.below hb1)
            clear hb1
            obtain ⟨hc, hfz⟩ := HNB1.out.cell (k := k) (by rw [plPart_length]; exact hlt)
            rw [plPart_get n n f k l hlt] at hc
            have hmb := mk_lt l (f k)
            have hp16 := (pw_nat l (by omega)).2
            have hor := or_pw (mk l (f k)) l (by omega) (by omega)
            have HR : Hid (NatBlk (w1.setCell ⟨w.heap.size, k, none⟩ (.int .i64 (mk l (f k) ||| 2 ^ l : Nat))) w.heap.size (plPart n n f k (l+1))) := by rw [← HY.out]; exact HNB1.out.set k _
            clear hmb hp16
            generalize mk l (f k) = mm at *
            go_wp2_with fail
            go_region
            go_wp2
            go_roundw
            case rel => exact ⟨l + 1, by omega, by go_num, HR.out, (HB1.out.setCell (Nat.le_refl _) _).drew⟩
            case measure => simp [intOf]; omega
          | false =>
            rw [hf] at HC'
            have HY := Lib.hid (plPart_no n n f k l hf)
            clear hf
            go_wp2_with fail
            refine HC'.out.mono ?_
            rintro e w1 ⟨rfl, hb1⟩
            have HB1 := Lib.hid (HB.out.trans (hb1.mono HB.out.size))
            have HNB1 := Lib.hid (HNB.out.below hb1)
            clear hb1
            go_wp2
            go_roundw
            case rel => exact ⟨l + 1, by omega, by go_num, by rw [← HY.out]; exact HNB1.out, HB1.out⟩
            case measure => simp [intOf]; omega
        · obtain rfl : l = n := by omega
          have HE := Lib.hid (plPart_next l l f k)
          rw [HE.out] at HNB
          go_wp2
          go_roundw
          case rel => exact ⟨k + 1, by omega, by go_num, HNB.out, HB.out⟩
          case measure => simp [intOf]; omega
    · obtain rfl : k = n := by omega
      have HE : Hid (plPart k k f k 0 = plantL k f) := plPart_end k k f
      rw [HE.out] at HNB
      go_wp2
      go_ret
      exact ⟨rfl, HNB.out, HB.out⟩
end Go.Proofs.Ytopmdmafameknaa
