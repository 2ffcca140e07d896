/- groups and words: isGroup, isMirror, isWord; the reference's Valid, Mirrors, Word; the law's Of, fine -/
import Derived.Test.YtlnbodpdgebflaaNv
namespace Go.Proofs.Ytlnbodpdgebflaa
open Go.RowKit

def grpB (k n : Int) : Bool := (k == 65 && decide (1 ≤ n) && decide (n ≤ 4)) || (k == 66 && decide (2 ≤ n) && decide (n ≤ 3)) || (k == 73 && decide (2 ≤ n) && decide (n ≤ 12))
theorem grp_of {k n : Int} (h : grpB k n = true) : ∃ g, g < 17 ∧ k = (kd g : Nat) ∧ n = (nm g : Nat) := by
  have key : ∀ k < 256, ∀ n < 13, grpB (k : Nat) (n : Nat) = true → ∃ g, g < 17 ∧ k = kd g ∧ n = nm g := by
    have : ∀ k ∈ [65, 66, 73], ∀ n < 13, grpB (k : Nat) (n : Nat) = true → ∃ g, g < 17 ∧ k = kd g ∧ n = nm g := by decide +kernel
    intro k hk n hn h
    refine this k ?_ n hn h
    simp [grpB] at h
    simp
    omega
  have hh := h
  simp [grpB] at hh
  obtain ⟨a, rfl⟩ := Int.eq_ofNat_of_zero_le (show 0 ≤ k by omega)
  obtain ⟨b, rfl⟩ := Int.eq_ofNat_of_zero_le (show 0 ≤ n by omega)
  obtain ⟨g, h1, h2, h3⟩ := key a (by omega) b (by omega) h
  exact ⟨g, h1, by rw [h2], by rw [h3]⟩
theorem grp_kn {g : Nat} (hg : g < 17) : grpB (kd g : Nat) (nm g : Nat) = true := by
  have : ∀ g < 17, grpB (kd g : Nat) (nm g : Nat) = true := by decide +kernel
  exact this g hg

set_option maxHeartbeats 1000000 in
theorem isGroup_any (k n : Int) (w : World) : Calls Try.prog 96 #[gV k n] w fun e w' => e = .returned (.bool (grpB k n)) ∧ Below w.heap.size w w' := by
  by_cases h65 : k = 65
  · subst h65
    have HB : Hid (grpB 65 n = (decide (1 ≤ n) && decide (n ≤ 4))) := Lib.hid (by simp [grpB])
    by_cases a : 1 ≤ n
    · by_cases b : n ≤ 4
      · have HC : Hid (grpB 65 n = true) := Lib.hid (by rw [HB.out]; simp [a, b])
        clear HB
        go_enter Try.func96, Try.ntmps96
        go_wp2
        go_ret
        exact ⟨ret_bool HC.out.symm, (Below.refl _ _).alloc (Nat.le_refl _) _⟩
      · have HC : Hid (grpB 65 n = false) := Lib.hid (by rw [HB.out]; simp [b])
        clear HB
        have b' : 4 < n := by omega
        go_enter Try.func96, Try.ntmps96
        go_wp2
        go_ret
        exact ⟨ret_bool HC.out.symm, (Below.refl _ _).alloc (Nat.le_refl _) _⟩
    · have HC : Hid (grpB 65 n = false) := Lib.hid (by rw [HB.out]; simp [a])
      clear HB
      have a' : n < 1 := by omega
      go_enter Try.func96, Try.ntmps96
      go_wp2
      go_ret
      exact ⟨ret_bool HC.out.symm, (Below.refl _ _).alloc (Nat.le_refl _) _⟩
  by_cases h66 : k = 66
  · subst h66
    have HB : Hid (grpB 66 n = (decide (2 ≤ n) && decide (n ≤ 3))) := Lib.hid (by simp [grpB])
    by_cases a : 2 ≤ n
    · by_cases b : n ≤ 3
      · have HC : Hid (grpB 66 n = true) := Lib.hid (by rw [HB.out]; simp [a, b])
        clear HB
        go_enter Try.func96, Try.ntmps96
        go_wp2
        go_ret
        exact ⟨ret_bool HC.out.symm, (Below.refl _ _).alloc (Nat.le_refl _) _⟩
      · have HC : Hid (grpB 66 n = false) := Lib.hid (by rw [HB.out]; simp [b])
        clear HB
        have b' : 3 < n := by omega
        go_enter Try.func96, Try.ntmps96
        go_wp2
        go_ret
        exact ⟨ret_bool HC.out.symm, (Below.refl _ _).alloc (Nat.le_refl _) _⟩
    · have HC : Hid (grpB 66 n = false) := Lib.hid (by rw [HB.out]; simp [a])
      clear HB
      have a' : n < 2 := by omega
      go_enter Try.func96, Try.ntmps96
      go_wp2
      go_ret
      exact ⟨ret_bool HC.out.symm, (Below.refl _ _).alloc (Nat.le_refl _) _⟩
  by_cases h73 : k = 73
  · subst h73
    have HB : Hid (grpB 73 n = (decide (2 ≤ n) && decide (n ≤ 12))) := Lib.hid (by simp [grpB])
    by_cases a : 2 ≤ n
    · by_cases b : n ≤ 12
      · have HC : Hid (grpB 73 n = true) := Lib.hid (by rw [HB.out]; simp [a, b])
        clear HB
        go_enter Try.func96, Try.ntmps96
        go_wp2
        go_ret
        exact ⟨ret_bool HC.out.symm, (Below.refl _ _).alloc (Nat.le_refl _) _⟩
      · have HC : Hid (grpB 73 n = false) := Lib.hid (by rw [HB.out]; simp [b])
        clear HB
        have b' : 12 < n := by omega
        go_enter Try.func96, Try.ntmps96
        go_wp2
        go_ret
        exact ⟨ret_bool HC.out.symm, (Below.refl _ _).alloc (Nat.le_refl _) _⟩
    · have HC : Hid (grpB 73 n = false) := Lib.hid (by rw [HB.out]; simp [a])
      clear HB
      have a' : n < 2 := by omega
      go_enter Try.func96, Try.ntmps96
      go_wp2
      go_ret
      exact ⟨ret_bool HC.out.symm, (Below.refl _ _).alloc (Nat.le_refl _) _⟩
  have e1 : (k == 65) = false := beq_eq_false_iff_ne.2 h65
  have e2 : (k == 66) = false := beq_eq_false_iff_ne.2 h66
  have e3 : (k == 73) = false := beq_eq_false_iff_ne.2 h73
  have HC : Hid (grpB k n = false) := Lib.hid (by simp [grpB, h65, h66, h73])
  clear h65 h66 h73
  go_enter Try.func96, Try.ntmps96
  go_wp2
  go_ret
  exact ⟨ret_bool HC.out.symm, (Below.refl _ _).alloc (Nat.le_refl _) _⟩

set_option maxHeartbeats 1000000 in
theorem Valid_any (k n : Int) (w : World) : Calls Try.prog 39 #[gV k n] w fun e w' => e = .returned (.bool (grpB k n)) ∧ Below w.heap.size w w' := by
  by_cases h65 : k = 65
  · subst h65
    have HB : Hid (grpB 65 n = (decide (1 ≤ n) && decide (n ≤ 4))) := Lib.hid (by simp [grpB])
    by_cases a : 1 ≤ n
    · by_cases b : n ≤ 4
      · have HC : Hid (grpB 65 n = true) := Lib.hid (by rw [HB.out]; simp [a, b])
        clear HB
        go_enter Try.func39, Try.ntmps39
        go_wp2
        go_ret
        exact ⟨ret_bool HC.out.symm, (Below.refl _ _).alloc (Nat.le_refl _) _⟩
      · have HC : Hid (grpB 65 n = false) := Lib.hid (by rw [HB.out]; simp [b])
        clear HB
        have b' : 4 < n := by omega
        go_enter Try.func39, Try.ntmps39
        go_wp2
        go_ret
        exact ⟨ret_bool HC.out.symm, (Below.refl _ _).alloc (Nat.le_refl _) _⟩
    · have HC : Hid (grpB 65 n = false) := Lib.hid (by rw [HB.out]; simp [a])
      clear HB
      have a' : n < 1 := by omega
      go_enter Try.func39, Try.ntmps39
      go_wp2
      go_ret
      exact ⟨ret_bool HC.out.symm, (Below.refl _ _).alloc (Nat.le_refl _) _⟩
  by_cases h66 : k = 66
  · subst h66
    have HB : Hid (grpB 66 n = (decide (2 ≤ n) && decide (n ≤ 3))) := Lib.hid (by simp [grpB])
    by_cases a : 2 ≤ n
    · by_cases b : n ≤ 3
      · have HC : Hid (grpB 66 n = true) := Lib.hid (by rw [HB.out]; simp [a, b])
        clear HB
        go_enter Try.func39, Try.ntmps39
        go_wp2
        go_ret
        exact ⟨ret_bool HC.out.symm, (Below.refl _ _).alloc (Nat.le_refl _) _⟩
      · have HC : Hid (grpB 66 n = false) := Lib.hid (by rw [HB.out]; simp [b])
        clear HB
        have b' : 3 < n := by omega
        go_enter Try.func39, Try.ntmps39
        go_wp2
        go_ret
        exact ⟨ret_bool HC.out.symm, (Below.refl _ _).alloc (Nat.le_refl _) _⟩
    · have HC : Hid (grpB 66 n = false) := Lib.hid (by rw [HB.out]; simp [a])
      clear HB
      have a' : n < 2 := by omega
      go_enter Try.func39, Try.ntmps39
      go_wp2
      go_ret
      exact ⟨ret_bool HC.out.symm, (Below.refl _ _).alloc (Nat.le_refl _) _⟩
  by_cases h73 : k = 73
  · subst h73
    have HB : Hid (grpB 73 n = (decide (2 ≤ n) && decide (n ≤ 12))) := Lib.hid (by simp [grpB])
    by_cases a : 2 ≤ n
    · by_cases b : n ≤ 12
      · have HC : Hid (grpB 73 n = true) := Lib.hid (by rw [HB.out]; simp [a, b])
        clear HB
        go_enter Try.func39, Try.ntmps39
        go_wp2
        go_ret
        exact ⟨ret_bool HC.out.symm, (Below.refl _ _).alloc (Nat.le_refl _) _⟩
      · have HC : Hid (grpB 73 n = false) := Lib.hid (by rw [HB.out]; simp [b])
        clear HB
        have b' : 12 < n := by omega
        go_enter Try.func39, Try.ntmps39
        go_wp2
        go_ret
        exact ⟨ret_bool HC.out.symm, (Below.refl _ _).alloc (Nat.le_refl _) _⟩
    · have HC : Hid (grpB 73 n = false) := Lib.hid (by rw [HB.out]; simp [a])
      clear HB
      have a' : n < 2 := by omega
      go_enter Try.func39, Try.ntmps39
      go_wp2
      go_ret
      exact ⟨ret_bool HC.out.symm, (Below.refl _ _).alloc (Nat.le_refl _) _⟩
  have e1 : (k == 65) = false := beq_eq_false_iff_ne.2 h65
  have e2 : (k == 66) = false := beq_eq_false_iff_ne.2 h66
  have e3 : (k == 73) = false := beq_eq_false_iff_ne.2 h73
  have HC : Hid (grpB k n = false) := Lib.hid (by simp [grpB, h65, h66, h73])
  clear h65 h66 h73
  go_enter Try.func39, Try.ntmps39
  go_wp2
  go_ret
  exact ⟨ret_bool HC.out.symm, (Below.refl _ _).alloc (Nat.le_refl _) _⟩

set_option maxHeartbeats 400000 in
theorem Mirrors_any (g : Nat) (hg : g < 17) (w : World) : Calls Try.prog 44 #[gV (kd g) (nm g)] w fun e w' => e = .returned (.int .i64 (kM g)) ∧ Below w.heap.size w w' := by
  by_cases h : kd g = 73
  · have hk : Hid (kM g = 2) := Lib.hid (by rcases kinds hg with q | q | q <;> omega)
    rw [h]
    go_enter Try.func44, Try.ntmps44
    go_wp2
    go_ret
    exact ⟨by rw [hk.out]; rfl, (Below.refl _ _).alloc (Nat.le_refl _) _⟩
  · have hk : Hid (kM g = nm g) := Lib.hid (by rcases kinds hg with q | q | q <;> omega)
    have hn : ((kd g : Int) == 73) = false := beq_eq_false_iff_ne.2 (by omega)
    generalize kd g = k at *
    clear h
    go_enter Try.func44, Try.ntmps44
    go_wp2
    go_ret
    exact ⟨by rw [hk.out]; rfl, (Below.refl _ _).alloc (Nat.le_refl _) _⟩

/-- A mirror of group g. -/
def mirB (g : Nat) (s : Int) : Bool := decide (0 ≤ s) && decide (s < (kM g : Nat))
set_option maxHeartbeats 400000 in
theorem isMirror_any (g : Nat) (hg : g < 17) (s : Int) (w : World) : Calls Try.prog 81 #[gV (kd g) (nm g), .int .i64 s] w fun e w' => e = .returned (.bool (mirB g s)) ∧ Below w.heap.size w w' := by
  have HM := Lib.hid (fun W => mirrorsOf_any g hg W)
  by_cases a : 0 ≤ s
  · have HB : Hid (mirB g s = decide (s < (kM g : Nat))) := Lib.hid (by simp [mirB, a])
    go_enter Try.func81, Try.ntmps81
    go_wp2_with fail
    refine (HM.out _).mono ?_
    rintro e w1 ⟨rfl, hb1⟩
    have HB1 : Hid (Below w.heap.size w w1) := Lib.hid (((Below.refl _ _).alloc (Nat.le_refl _) _).trans (hb1.mono (by simp)))
    clear hb1
    generalize kM g = kn at *
    by_cases b : s < (kn : Int)
    · go_wp2
      go_ret
      exact ⟨ret_bool (by rw [HB.out, decide_eq_true b]), HB1.out⟩
    · go_wp2
      go_ret
      exact ⟨ret_bool (by rw [HB.out]), HB1.out⟩
  · have HB : Hid (mirB g s = false) := Lib.hid (by simp [mirB]; omega)
    have a' : s < 0 := by omega
    clear HM
    go_enter Try.func81, Try.ntmps81
    go_wp2
    go_ret
    exact ⟨ret_bool HB.out.symm, (Below.refl _ _).alloc (Nat.le_refl _) _⟩

/-- The letters are mirrors. -/
def letB (g : Nat) (l : List Int) : Bool := l.all (mirB g)
def wordB (g : Nat) (l : List Int) : Bool := decide (l.length ≤ 30) && letB g l
theorem let_snoc {g : Nat} {l : List Int} {k : Nat} (hk : k < l.length) : letB g (l.take (k + 1)) = (letB g (l.take k) && mirB g (l.getD k 0)) := by
  rw [take_snoc _ _ hk]; simp [letB]
theorem let_bad {g : Nat} {l : List Int} {k : Nat} (hk : k < l.length) (h : mirB g (l.getD k 0) = false) : letB g l = false := by
  unfold letB
  rw [List.all_eq_false]
  exact ⟨_, getD_mem hk, by rw [h]; decide⟩

set_option maxHeartbeats 1000000 in
theorem isWord_any (g : Nat) (hg : g < 17) (v : Value) (l : List Int) (w : World) (h : Ints w v l) : Calls Try.prog 97 #[gV (kd g) (nm g), v] w fun e w' => e = .returned (.bool (wordB g l)) ∧ Below w.heap.size w w' := by
  obtain ⟨ao, cap, rfl, h1, h2, hx⟩ := h.open
  have HX := Lib.hid hx
  have HM := Lib.hid (fun s W => isMirror_any g hg s W)
  clear h hx
  by_cases h30 : l.length ≤ 30
  · have HW : Hid (wordB g l = letB g l) := Lib.hid (by simp [wordB, h30])
    go_enter Try.func97, Try.ntmps97
    go_wp2_with fail
    go_loopw [12] (fun i wr => ∃ k : Nat, k ≤ l.length ∧ i = .int .i64 k ∧ letB g (l.take k) = true ∧ Blk 28 wr w.heap.size #[.int .u8 (kd g), .int .i64 (nm g)] ∧ Below w.heap.size w wr) (fun i _ => l.length - (intOf i).toNat)
    case atStart => exact ⟨0, Nat.zero_le _, rfl, rfl, Blk.new _ _ _, (Below.refl _ _).alloc (Nat.le_refl _) _⟩
    case round =>
      obtain ⟨k, hk, rfl, hl, hG, hb⟩ := hrel
      have HL := Lib.hid hl
      have HG := Lib.hid hG
      have HB := Lib.hid hb
      have g0 := hG.at0.1
      have g1 := hG.at0.2
      clear hl hG hb
      by_cases hlt : k < l.length
      · obtain ⟨b, o, rfl, hck⟩ := HX.out k hlt
        have hck' := ck hck (W := w) (w1 := wr) HB.out
        have HS := Lib.hid (let_snoc (g := g) hlt)
        have HD := Lib.hid (fun h => let_bad (g := g) hlt h)
        clear hck
        generalize l.getD k 0 = z at *
        go_wp2_with fail
        refine (HM.out z _).mono ?_
        rintro e w1 ⟨rfl, hb1⟩
        have HG1 := Lib.hid (HG.out.below hb1)
        have HB1 : Hid (Below w.heap.size w w1) := Lib.hid (HB.out.trans (hb1.mono HB.out.size))
        clear hb1
        cases hm : mirB g z with
        | true =>
          have HT : Hid (letB g (l.take (k + 1)) = true) := Lib.hid (by rw [HS.out, HL.out, hm]; rfl)
          clear HS HD hm
          go_wp2_with fail
          go_roundw
          case rel => exact ⟨k + 1, by omega, by go_num, HT.out, HG1.out, HB1.out⟩
          case measure => simp [intOf]; omega
        | false =>
          have HT : Hid (letB g l = false) := Lib.hid (HD.out hm)
          clear HS HD hm
          go_wp2_with fail
          go_ret
          exact ⟨ret_bool (by rw [HW.out, HT.out]), HB1.out⟩
      · obtain rfl : k = l.length := by omega
        have HT : Hid (letB g l = true) := Lib.hid (by have := HL.out; rwa [List.take_length] at this)
        clear HL
        go_wp2_with fail
        go_ret
        exact ⟨ret_bool (by rw [HW.out, HT.out]), HB.out⟩
  · have HW : Hid (wordB g l = false) := Lib.hid (by simp [wordB, h30])
    clear HM
    go_enter Try.func97, Try.ntmps97
    go_wp2
    go_ret
    exact ⟨ret_bool HW.out.symm, (Below.refl _ _).alloc (Nat.le_refl _) _⟩

set_option maxHeartbeats 1000000 in
theorem Word_any (g : Nat) (hg : g < 17) (v : Value) (l : List Int) (w : World) (h : Ints w v l) : Calls Try.prog 35 #[gV (kd g) (nm g), v] w fun e w' => e = .returned (.bool (wordB g l)) ∧ Below w.heap.size w w' := by
  obtain ⟨ao, cap, rfl, h1, h2, hx⟩ := h.open
  have HX := Lib.hid hx
  have HM := Lib.hid (fun W => Mirrors_any g hg W)
  clear h hx
  go_enter Try.func35, Try.ntmps35
  go_wp2_with fail
  go_loopw [9] (fun i wr => ∃ k : Nat, k ≤ l.length ∧ i = .int .i64 k ∧ letB g (l.take k) = true ∧ Blk 23 wr w.heap.size #[.int .u8 (kd g), .int .i64 (nm g)] ∧ Below w.heap.size w wr) (fun i _ => l.length - (intOf i).toNat)
  case atStart => exact ⟨0, Nat.zero_le _, rfl, rfl, Blk.new _ _ _, (Below.refl _ _).alloc (Nat.le_refl _) _⟩
  case round =>
    obtain ⟨k, hk, rfl, hl, hG, hb⟩ := hrel
    have HL := Lib.hid hl
    have HG := Lib.hid hG
    have HB := Lib.hid hb
    have g0 := hG.at0.1
    have g1 := hG.at0.2
    clear hl hG hb
    by_cases hlt : k < l.length
    · obtain ⟨b, o, rfl, hck⟩ := HX.out k hlt
      have hck' := ck hck (W := w) (w1 := wr) HB.out
      have HS := Lib.hid (let_snoc (g := g) hlt)
      have HD := Lib.hid (fun h => let_bad (g := g) hlt h)
      clear hck
      generalize l.getD k 0 = z at *
      by_cases a : z < 0
      · have HT : Hid (wordB g l = false) := Lib.hid (by rw [wordB, HD.out (by simp [mirB]; omega)]; simp)
        clear HS HD
        go_wp2_with fail
        go_ret
        exact ⟨ret_bool HT.out.symm, HB.out⟩
      · have a' : 0 ≤ z := by omega
        clear a
        go_wp2_with fail
        refine (HM.out _).mono ?_
        rintro e w1 ⟨rfl, hb1⟩
        have HG1 := Lib.hid (HG.out.below hb1)
        have HB1 : Hid (Below w.heap.size w w1) := Lib.hid (HB.out.trans (hb1.mono HB.out.size))
        have HMz : Hid (mirB g z = decide (z < (kM g : Nat))) := Lib.hid (by simp [mirB, a'])
        clear hb1
        generalize hkn : kM g = kn at *
        clear hkn
        by_cases b : (kn : Int) ≤ z
        · have HT : Hid (wordB g l = false) := Lib.hid (by rw [wordB, HD.out (by rw [HMz.out]; simp; omega)]; simp)
          clear HS HD HMz
          go_wp2_with fail
          go_ret
          exact ⟨ret_bool HT.out.symm, HB1.out⟩
        · have HT : Hid (letB g (l.take (k + 1)) = true) := Lib.hid (by rw [HS.out, HL.out, HMz.out]; simp; omega)
          have b' : z < (kn : Int) := by omega
          clear HS HD HMz b
          go_wp2_with fail
          go_roundw
          case rel => exact ⟨k + 1, by omega, by go_num, HT.out, HG1.out, HB1.out⟩
          case measure => simp [intOf]; omega
    · obtain rfl : k = l.length := by omega
      have HT : Hid (wordB g l = decide (l.length ≤ 30)) := Lib.hid (by have := HL.out; rw [List.take_length] at this; rw [wordB, this]; simp)
      clear HL HM
      go_wp2_with fail
      go_ret
      exact ⟨ret_bool (by rw [HT.out]; exact decide_eq_decide.2 (by omega)), HB.out⟩
theorem word_take (g : Nat) (l : List Int) : wordB g (l.take 34) = wordB g l := by
  by_cases h : l.length ≤ 34
  · rw [List.take_of_length_le h]
  · have e1 : wordB g l = false := by simp [wordB]; omega
    have e2 : wordB g (l.take 34) = false := by simp [wordB]; omega
    rw [e1, e2]

theorem i28 : (Try.prog.info? 28).map (·.size) = some 2 := by kernel_rfl
set_option maxHeartbeats 400000 in
theorem Of_any (k n : Int) (w : World) : Calls Try.prog 20 #[gV k n] w fun e w' => e = .returned (gV k n) ∧ Below w.heap.size w w' := by
  go_enter Try.func20, Try.ntmps20
  go_wp2
  exact bodyPost_ret (results_cell_row rfl _ _ (w.heap.size + 1) 28 _ (0, 0) _ rfl (blk_at (by simp)) Try.underlying28 rfl i28) rfl ⟨rfl, ((Below.refl _ _).alloc (Nat.le_refl _) _).alloc (by simp) _⟩
end Go.Proofs.Ytlnbodpdgebflaa
