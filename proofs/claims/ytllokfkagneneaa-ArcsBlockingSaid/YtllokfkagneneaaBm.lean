/- blocking sets: the mathematics -/
import Derived.Test.YtllokfkagneneaaT4
import Derived.Test.YtllokfkagneneaaZ
import Derived.Test.YtllokfkagneneaaJ
namespace Go.Proofs.Ytllokfkagneneaa

def sumL {α : Type} (f : α → Nat) (l : List α) : Nat := (l.map f).sum
section
variable {α β : Type}
theorem sumL_nil (f : α → Nat) : sumL f [] = 0 := rfl
theorem sumL_cons (f : α → Nat) (a : α) (l : List α) : sumL f (a :: l) = f a + sumL f l := by simp [sumL]
theorem sumL_add (f g : α → Nat) (l : List α) : sumL (fun a => f a + g a) l = sumL f l + sumL g l := by
  induction l with
  | nil => rfl
  | cons a l ih => rw [sumL_cons, sumL_cons, sumL_cons, ih]; omega
theorem sumL_zero (l : List α) : sumL (fun _ => 0) l = 0 := by
  induction l with
  | nil => rfl
  | cons a l ih => rw [sumL_cons, ih]
theorem sumL_const (c : Nat) (l : List α) : sumL (fun _ => c) l = l.length * c := by
  induction l with
  | nil => simp [sumL_nil]
  | cons a l ih => rw [sumL_cons, ih, List.length_cons, Nat.add_mul]; omega
theorem sumL_congr {f g : α → Nat} {l : List α} (h : ∀ a ∈ l, f a = g a) : sumL f l = sumL g l := by
  unfold sumL; congr 1; exact List.map_congr_left h
theorem sumL_le {f g : α → Nat} {l : List α} (h : ∀ a ∈ l, f a ≤ g a) : sumL f l ≤ sumL g l := by
  induction l with
  | nil => exact Nat.le_refl _
  | cons a l ih =>
    rw [sumL_cons, sumL_cons]
    have h1 := h a (by simp)
    have h2 := ih fun b hb => h b (by simp [hb])
    omega
theorem sumL_mul (c : Nat) (f : α → Nat) (l : List α) : sumL (fun a => c * f a) l = c * sumL f l := by
  induction l with
  | nil => simp [sumL_nil]
  | cons a l ih => rw [sumL_cons, sumL_cons, ih, Nat.mul_add]
theorem sumL_swap (h : α → β → Nat) (A : List α) (B : List β) : sumL (fun a => sumL (fun b => h a b) B) A = sumL (fun b => sumL (fun a => h a b) A) B := by
  induction A with
  | nil => rw [sumL_nil]; symm; exact (sumL_congr fun b _ => sumL_nil _).trans (sumL_zero B)
  | cons a A ih =>
    rw [sumL_cons, ih, ← sumL_add]
    exact sumL_congr fun b _ => (sumL_cons (fun a => h a b) a A).symm
theorem filter_sum (p : α → Bool) (l : List α) : (l.filter p).length = sumL (fun a => if p a = true then 1 else 0) l := by
  induction l with
  | nil => rfl
  | cons a l ih =>
    rw [sumL_cons, List.filter_cons]
    split
    · rw [List.length_cons, ih]; omega
    · rw [ih]; omega
theorem sumL_filter (p : α → Bool) (f : α → Nat) (l : List α) : sumL f (l.filter p) = sumL (fun a => (if p a = true then 1 else 0) * f a) l := by
  induction l with
  | nil => rfl
  | cons a l ih =>
    rw [List.filter_cons, sumL_cons]
    cases h : p a with
    | true => rw [if_pos rfl, sumL_cons, ih, if_pos rfl]; omega
    | false => rw [if_neg (by simp), ih, if_neg (by simp)]; omega
theorem nodup_le {l l' : List Nat} (h : l.Nodup) (hs : ∀ x ∈ l, x ∈ l') : l.length ≤ l'.length := by
  induction l generalizing l' with
  | nil => exact Nat.zero_le _
  | cons a l ih =>
    rw [List.nodup_cons] at h
    have ha := hs a (by simp)
    have h1 := ih (l' := l'.erase a) h.2 fun x hx => by
      have hne : x ≠ a := fun e => h.1 (by rw [← e]; exact hx)
      exact (List.mem_erase_of_ne hne).2 (hs x (by simp [hx]))
    rw [List.length_erase_of_mem ha] at h1
    have := List.length_pos_of_mem ha
    rw [List.length_cons]; omega
/-- One element counts for itself, every other one for 1 at least. -/
theorem sumL_one_more {f : α → Nat} {l : List α} (h : ∀ a ∈ l, 1 ≤ f a) {x : α} (hx : x ∈ l) : f x + (l.length - 1) ≤ sumL f l := by
  induction l with
  | nil => simp at hx
  | cons a l ih =>
    rw [sumL_cons, List.length_cons]
    have h1 := h a (by simp)
    have h3 : l.length ≤ sumL f l := by
      have := sumL_le (f := fun _ => 1) (g := f) (l := l) fun b hb => h b (by simp [hb])
      rw [sumL_const] at this; omega
    rcases List.mem_cons.1 hx with rfl | hx
    · omega
    · have h2 := ih (fun b hb => h b (by simp [hb])) hx
      have : 0 < l.length := List.length_pos_of_mem hx
      omega
end

def cN (q : Nat) (B : List Nat) (l : Nat) : Nat := (B.filter fun x => onB q x l).length
theorem cN_sum (q : Nat) (B : List Nat) (l : Nat) : cN q B l = sumL (fun x => if onB q x l = true then 1 else 0) B := filter_sum _ _

theorem both_sum (q a b : Nat) : both q a b = sumL (fun l => (if onB q a l = true then 1 else 0) * (if onB q b l = true then 1 else 0)) (List.range (np q)) := by
  unfold both
  rw [filter_sum]
  refine sumL_congr fun l _ => ?_
  cases onB q a l <;> cases onB q b l <;> rfl

theorem sum_lines (q : Nat) (B : List Nat) (hq : isPn q) (hB : ∀ x ∈ B, x < np q) : sumL (fun l => cN q B l) (List.range (np q)) = B.length * (q + 1) := by
  rw [sumL_congr fun l _ => cN_sum q B l, sumL_swap, ← sumL_const]
  refine sumL_congr fun x hx => ?_
  rw [← filter_sum, ← cnt_all q x hq (hB x hx)]
  unfold cnt
  congr 1
  refine List.filter_congr fun l _ => ?_
  rw [onB_comm]

theorem nodup_one {x : Nat} {B : List Nat} (hB : B.Nodup) (hx : x ∈ B) (c : Nat) : sumL (fun y => if x = y then c + 1 else 1) B = B.length + c := by
  induction B with
  | nil => simp at hx
  | cons a B ih =>
    rw [List.nodup_cons] at hB
    rw [sumL_cons, List.length_cons]
    rcases List.mem_cons.1 hx with rfl | hx
    · rw [if_pos rfl, sumL_congr (g := fun _ => 1) fun y hy => if_neg (fun (e : x = y) => hB.1 (by rw [e]; exact hy)), sumL_const]; omega
    · rw [if_neg (fun e => hB.1 (by rw [← e]; exact hx)), ih hB.2 hx]; omega

theorem sum_squares (q : Nat) (B : List Nat) (hq : isPn q) (hB : ∀ x ∈ B, x < np q) (hN : B.Nodup) : sumL (fun l => cN q B l * cN q B l) (List.range (np q)) = B.length * (B.length + q) := by
  have e1 : ∀ l, cN q B l * cN q B l = sumL (fun x => sumL (fun y => (if onB q x l = true then 1 else 0) * (if onB q y l = true then 1 else 0)) B) B := fun l => by
    conv => lhs; rw [cN_sum q B l]
    rw [← sumL_mul]
    refine sumL_congr fun x _ => ?_
    rw [Nat.mul_comm, ← sumL_mul]
  rw [sumL_congr fun l _ => e1 l, sumL_swap, ← sumL_const]
  refine sumL_congr fun x hx => ?_
  rw [sumL_swap, ← nodup_one hN hx q]
  refine sumL_congr fun y hy => ?_
  rw [← both_sum]
  by_cases e : x = y
  · subst e; rw [if_pos rfl, both_same q x hq (hB x hx)]
  · rw [if_neg e, both_one q x y hq (hB x hx) (hB y hy) e]

/-- A line with all its points but one outside: no line has more points than p less. -/
theorem line_most (q : Nat) (B : List Nat) (hq : isPn q) (hB : ∀ x ∈ B, x < np q) (h1 : ∀ l, l < np q → 1 ≤ cN q B l) {L P : Nat} (hL : L < np q) (hP : P < np q) (hPB : P ∉ B) (hon : onB q P L = true) :
    cN q B L + q ≤ B.length := by
  have hM : ∀ l ∈ (List.range (np q)).filter (fun l => onB q P l), 1 ≤ cN q B l := fun l hl => h1 l (by simpa using (List.mem_filter.1 hl).1)
  have hL' : L ∈ (List.range (np q)).filter (fun l => onB q P l) := by simp [hL, hon]
  have hs := sumL_one_more hM hL'
  have hlen : ((List.range (np q)).filter (fun l => onB q P l)).length = q + 1 := by
    rw [← cnt_all q P hq hP]
    unfold cnt
    congr 1
    exact List.filter_congr fun l _ => onB_comm q P l
  have htot : sumL (fun l => cN q B l) ((List.range (np q)).filter (fun l => onB q P l)) = B.length := by
    rw [sumL_congr fun l _ => cN_sum q B l, sumL_swap, ← Nat.mul_one B.length, ← sumL_const]
    refine sumL_congr fun x hx => ?_
    have hne : P ≠ x := fun e => hPB (e ▸ hx)
    have hb1 := both_one q P x hq hP (hB x hx) hne
    rw [both_sum] at hb1
    exact (sumL_filter _ _ _).trans hb1
  rw [htot, hlen] at hs
  omega

theorem point_out (q : Nat) (B : List Nat) (hq : isPn q) {L : Nat} (hL : L < np q) (h : cN q B L ≤ q) : ∃ P, P < np q ∧ P ∉ B ∧ onB q P L = true := by
  by_cases hc : ∃ P, P < np q ∧ P ∉ B ∧ onB q P L = true
  · exact hc
  · exfalso
    have hsub : ∀ x ∈ (List.range (np q)).filter (fun x => onB q x L), x ∈ B.filter fun x => onB q x L := fun x hx => by
      rw [List.mem_filter] at hx ⊢
      refine ⟨?_, hx.2⟩
      by_cases hb : x ∈ B
      · exact hb
      · exact absurd ⟨x, by simpa using hx.1, hb, hx.2⟩ hc
    have hn1 : ((List.range (np q)).filter (fun x => onB q x L)).Nodup := (List.nodup_range).filter _
    have h2 : ((List.range (np q)).filter (fun x => onB q x L)).length ≤ (B.filter fun x => onB q x L).length := nodup_le hn1 hsub
    have h3 := cnt_all q L hq hL
    unfold cnt at h3
    unfold cN at h
    omega

/-- Bruen: a blocking set of p + m points has (m - 1)^2 at least p. -/
theorem bruen (q : Nat) (B : List Nat) (hq : isPn q) (hB : ∀ x ∈ B, x < np q) (hN : B.Nodup) (h1 : ∀ l, l < np q → 1 ≤ cN q B l) (h2 : ∀ l, l < np q → cN q B l ≤ q) :
    ∃ m, B.length = q + m ∧ 1 ≤ m ∧ (q + m) * (q + m + q) + np q * m ≤ (m + 1) * ((q + m) * (q + 1)) := by
  have hall : ∀ l, l < np q → cN q B l + q ≤ B.length := fun l hl => by
    obtain ⟨P, hP, hPB, hon⟩ := point_out q B hq hl (h2 l hl)
    exact line_most q B hq hB h1 hl hP hPB hon
  have h0 := hall 0 (np_pos q)
  have h01 := h1 0 (np_pos q)
  obtain ⟨m, hm⟩ : ∃ m, B.length = q + m := ⟨B.length - q, by omega⟩
  refine ⟨m, hm, by omega, ?_⟩
  have e1 := sum_lines q B hq hB
  have e2 := sum_squares q B hq hB hN
  rw [hm] at e1 e2
  have hle : sumL (fun l => cN q B l * cN q B l + m) (List.range (np q)) ≤ sumL (fun l => (m + 1) * cN q B l) (List.range (np q)) := by
    refine sumL_le fun l hl => ?_
    have hl : l < np q := by simpa using hl
    have a := hall l hl
    have b := h1 l hl
    generalize cN q B l = c at *
    obtain ⟨d, rfl⟩ : ∃ d, m = c + d := ⟨m - c, by omega⟩
    have : d ≤ d * c := Nat.le_mul_of_pos_right d (by omega)
    rw [Nat.add_mul, Nat.add_mul]
    omega
  rw [sumL_add, sumL_mul, sumL_const, List.length_range, e1, e2] at hle
  exact hle

/-- A set's numbers, rising. -/
def setN (q : Nat) (xs : List Int) : List Nat := (List.range (np q)).filter fun (x : Nat) => hasB xs x
/-- The other numbers, up to m. -/
def restL (xs : List Int) (m : Nat) : List Int := ((List.range m).filter fun (x : Nat) => !hasB xs x).map fun (x : Nat) => (x : Int)

theorem rises_pairwise {xs : List Int} (h : Rises xs) : xs.Pairwise (· < ·) := by
  rw [List.pairwise_iff_getElem]
  intro i j hi hj hij
  induction j with
  | zero => omega
  | succ j ih =>
    have h1 := h (j+1) hj (by omega)
    rw [show j + 1 - 1 = j by omega] at h1
    simp [show j < xs.length by omega, hj] at h1
    by_cases e : i = j
    · subst e; exact h1
    · have := ih (by omega) (by omega)
      omega
theorem pairwise_rises {xs : List Int} (h : xs.Pairwise (· < ·)) : Rises xs := by
  intro k hk h0
  have := (List.pairwise_iff_getElem.1 h) (k-1) k (by omega) hk (by omega)
  simpa [show k - 1 < xs.length by omega, hk] using this

theorem set_as_range (q : Nat) (xs : List Int) (hin : InP q xs) (hr : Rises xs) : xs = (setN q xs).map fun (x : Nat) => (x : Int) := by
  have hp := rises_pairwise hr
  have hp2 : ((setN q xs).map fun (x : Nat) => (x : Int)).Pairwise (· < ·) := by
    rw [List.pairwise_map]
    exact ((List.pairwise_lt_range).filter _).imp fun h => by omega
  have hn : ∀ {l : List Int}, l.Pairwise (· < ·) → l.Nodup := fun h => h.imp fun h => by omega
  refine List.Perm.eq_of_pairwise (le := (· < ·)) (fun a b _ _ h1 h2 => by omega) hp hp2 ((List.perm_ext_iff_of_nodup (hn hp) (hn hp2)).2 fun a => ?_)
  simp only [setN, List.mem_map, List.mem_filter, List.mem_range, hasB, decide_eq_true_eq]
  constructor
  · intro ha
    obtain ⟨k, hk, rfl⟩ := mem_getD ha
    have := hin k hk
    refine ⟨(xs.getD k 0).toNat, ⟨by omega, ?_⟩, by omega⟩
    rw [show (((xs.getD k 0).toNat : Nat) : Int) = xs.getD k 0 by omega]
    exact ha
  · rintro ⟨x, ⟨_, hx⟩, rfl⟩
    exact hx

theorem cntL_map (q : Nat) (B : List Nat) (l : Nat) : cntL q (B.map fun (x : Nat) => (x : Int)) l = cN q B l := by
  unfold cntL cN
  rw [List.filter_map, List.length_map]
  congr 1
theorem cntL_set (q : Nat) (xs : List Int) (hin : InP q xs) (hr : Rises xs) (l : Nat) : cntL q xs l = cN q (setN q xs) l := by
  conv => lhs; rw [set_as_range q xs hin hr]
  exact cntL_map q _ l

theorem cnt_parts (q : Nat) (xs : List Int) (hin : InP q xs) (hr : Rises xs) (l : Nat) : cntL q (restL xs (np q)) l + cntL q xs l = cnt q l (np q) := by
  rw [cntL_set q xs hin hr]
  unfold restL
  rw [cntL_map]
  unfold cN setN cnt
  simp only [List.filter_filter]
  generalize List.range (np q) = R
  induction R with
  | nil => rfl
  | cons a R ih =>
    simp only [List.filter_cons]
    cases hasB xs a <;> cases onB q a l <;> simp <;> omega

theorem restL_in (q : Nat) (xs : List Int) : InP q (restL xs (np q)) := by
  intro k hk
  have hm := getD_mem hk
  simp only [restL, List.mem_map, List.mem_filter, List.mem_range] at hm
  obtain ⟨x, ⟨hx, _⟩, e⟩ := hm
  unfold restL
  omega
theorem restL_rises (xs : List Int) (m : Nat) : Rises (restL xs m) := by
  refine pairwise_rises ?_
  unfold restL
  rw [List.pairwise_map]
  exact ((List.pairwise_lt_range).filter _).imp fun h => by omega

theorem blocksS_iff (q : Nat) (xs : List Int) : blocksS q xs = true ↔ (∀ l, l < np q → ¬ cntL q xs l = 0) ∧ (∀ l, l < np q → ¬ cntL q xs l = q + 1) := by
  unfold blocksS missS
  rw [Bool.and_eq_true]
  simp only [beq_iff_eq, linesW_none]
  constructor
  · intro ⟨h1, h2⟩; exact ⟨fun l hl e => h1 l hl (by omega), fun l hl e => h2 l hl (by omega)⟩
  · intro ⟨h1, h2⟩; exact ⟨fun l hl e => h1 l hl (by omega), fun l hl e => h2 l hl (by omega)⟩

theorem rest_blocks (q : Nat) (xs : List Int) (hq : isPn q) (hin : InP q xs) (hr : Rises xs) : blocksS q (restL xs (np q)) = blocksS q xs := by
  have h := fun l (hl : l < np q) => (cnt_parts q xs hin hr l).trans (cnt_all q l hq hl)
  rw [Bool.eq_iff_iff, blocksS_iff, blocksS_iff]
  constructor
  · intro ⟨h1, h2⟩; exact ⟨fun l hl e => h2 l hl (by have := h l hl; omega), fun l hl e => h1 l hl (by have := h l hl; omega)⟩
  · intro ⟨h1, h2⟩; exact ⟨fun l hl e => h2 l hl (by have := h l hl; omega), fun l hl e => h1 l hl (by have := h l hl; omega)⟩
theorem rest_miss (q : Nat) (xs : List Int) (hq : isPn q) (hin : InP q xs) (hr : Rises xs) : blocksS q xs = ((missS q xs).length == 0 && (missS q (restL xs (np q))).length == 0) := by
  have h := fun l (hl : l < np q) => (cnt_parts q xs hin hr l).trans (cnt_all q l hq hl)
  unfold blocksS
  congr 1
  rw [Bool.eq_iff_iff]
  unfold missS
  simp only [beq_iff_eq, linesW_none]
  constructor
  · intro h1 l hl e; exact h1 l hl (by have := h l hl; omega)
  · intro h1 l hl e; exact h1 l hl (by have := h l hl; omega)

theorem blocking_size (q : Nat) (xs : List Int) (hq : isPn q) (hin : InP q xs) (hr : Rises xs) (h : blocksS q xs = true) : ∃ m, xs.length = q + m ∧ 1 ≤ m ∧ (q + m) * (q + m + q) + np q * m ≤ (m + 1) * ((q + m) * (q + 1)) := by
  obtain ⟨h1, h2⟩ := (blocksS_iff q xs).1 h
  have hB : ∀ x ∈ setN q xs, x < np q := fun x hx => by simpa using (List.mem_filter.1 hx).1
  have hN : (setN q xs).Nodup := (List.nodup_range).filter _
  have hm := fun l (hl : l < np q) => cntL_max q l xs hq hl hin hr
  rw [show xs.length = (setN q xs).length by conv => lhs; rw [set_as_range q xs hin hr, List.length_map]]
  refine bruen q (setN q xs) hq hB hN (fun l hl => ?_) (fun l hl => ?_)
  · have := h1 l hl; rw [cntL_set q xs hin hr] at this; omega
  · have := h2 l hl; have a := hm l hl; rw [cntL_set q xs hin hr] at this a; omega

theorem rest_length (q : Nat) (xs : List Int) (hin : InP q xs) (hr : Rises xs) : (restL xs (np q)).length + xs.length = np q := by
  rw [show xs.length = (setN q xs).length by conv => lhs; rw [set_as_range q xs hin hr, List.length_map]]
  unfold restL setN
  rw [List.length_map]
  have : ∀ R : List Nat, (R.filter fun (x : Nat) => !hasB xs x).length + (R.filter fun (x : Nat) => hasB xs x).length = R.length := fun R => by
    induction R with
    | nil => rfl
    | cons a R ih =>
      simp only [List.filter_cons]
      cases hasB xs a <;> simp <;> omega
  rw [this, List.length_range]

/-- The bound of Bruen, as the law has it. -/
theorem blocking_law (q : Nat) (xs : List Int) (hq : isPn q) (hin : InP q xs) (hr : Rises xs) (h : blocksS q xs = true) : 2 < q ∧ q < xs.length ∧ (q : Int) < ((xs.length : Int) - q) * ((xs.length : Int) - q) := by
  obtain ⟨m, hm, h1, h2⟩ := blocking_size q xs hq hin hr h
  rw [hm]
  have e : (((q + m : Nat) : Int) - q) = (m : Int) := by omega
  rw [e]
  have key : q < m * m ∧ (q = 2 → 3 ≤ m) := by
    rcases hq with rfl | rfl | rfl | rfl <;> simp only [np, Nat.mul_add, Nat.add_mul] at h2
    all_goals
      generalize hmm : m * m = t at *
      rcases Nat.lt_or_ge m 4 with hlt | hge
      · have : m = 1 ∨ m = 2 ∨ m = 3 := by omega
        rcases this with rfl | rfl | rfl <;> omega
      · have : 4 * 4 ≤ m * m := Nat.mul_le_mul hge hge
        omega
  have hk : (q : Int) < (m : Int) * m := by
    have : ((q : Nat) : Int) < ((m * m : Nat) : Int) := by omega
    rwa [Int.natCast_mul] at this
  refine ⟨?_, by omega, hk⟩
  rcases Nat.lt_or_ge 2 q with h3 | h3
  · exact h3
  · exfalso
    have hq2 : q = 2 := by have := hq.le; omega
    subst hq2
    have hrest : blocksS 2 (restL xs (np 2)) = true := by rw [rest_blocks 2 xs hq hin hr]; exact h
    obtain ⟨m', hm', h1', h2'⟩ := blocking_size 2 (restL xs (np 2)) hq (restL_in 2 xs) (restL_rises xs _) hrest
    have hlen := rest_length 2 xs hin hr
    have hn : np 2 = 7 := rfl
    have := key.2 rfl
    omega
end Go.Proofs.Ytllokfkagneneaa
