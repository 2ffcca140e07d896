/- how many cards a cap can have: planes are counted -/
import Derived.Test.YtlalfjkenkmojaaDm
namespace Go.Proofs.Ytlalfjkenkmojaa

/-- The value of a direction at a card. -/
def dotN : Nat → Nat → Nat → Nat
  | 0, _, _ => 0
  | d + 1, u, x => ((u % 3) * (x % 3) + dotN d (u / 3) (x / 3)) % 3
theorem dotN_lt (d u x : Nat) : dotN d u x < 3 := by
  cases d with
  | zero => exact Nat.succ_pos _
  | succ d => exact Nat.mod_lt _ (by omega)
theorem dot_step {d u x : Nat} : (u % 3 = 0 ∧ dotN (d + 1) u x = dotN d (u / 3) (x / 3) % 3) ∨ (u % 3 = 1 ∧ dotN (d + 1) u x = (x % 3 + dotN d (u / 3) (x / 3)) % 3) ∨ (u % 3 = 2 ∧ dotN (d + 1) u x = (2 * (x % 3) + dotN d (u / 3) (x / 3)) % 3) := by
  rcases (show u % 3 = 0 ∨ u % 3 = 1 ∨ u % 3 = 2 by omega) with h | h | h
  · exact .inl ⟨h, by rw [dotN, h, Nat.zero_mul, Nat.zero_add]⟩
  · exact .inr (.inl ⟨h, by rw [dotN, h, Nat.one_mul]⟩)
  · exact .inr (.inr ⟨h, by rw [dotN, h]⟩)
theorem dot_third (d u x y : Nat) : (dotN d u (thirdN d x y) + dotN d u x + dotN d u y) % 3 = 0 := by
  induction d generalizing u x y with
  | zero => rfl
  | succ d ih =>
    have h := ih (u / 3) (x / 3) (y / 3)
    have e1 : thirdN (d + 1) x y % 3 = (6 - x % 3 - y % 3) % 3 := by rw [thirdN]; omega
    have e2 : thirdN (d + 1) x y / 3 = thirdN d (x / 3) (y / 3) := by rw [thirdN]; omega
    have h1 := dot_step (d := d) (u := u) (x := thirdN (d + 1) x y)
    have h2 := dot_step (d := d) (u := u) (x := x)
    have h3 := dot_step (d := d) (u := u) (x := y)
    rw [e1, e2] at h1
    generalize dotN (d + 1) u (thirdN (d + 1) x y) = A at *
    generalize dotN (d + 1) u x = B at *
    generalize dotN (d + 1) u y = C at *
    generalize dotN d (u / 3) (thirdN d (x / 3) (y / 3)) = a at *
    generalize dotN d (u / 3) (x / 3) = b at *
    generalize dotN d (u / 3) (y / 3) = c at *
    clear ih e1 e2
    rcases h1 with ⟨g, h1⟩ | ⟨g, h1⟩ | ⟨g, h1⟩ <;> rcases h2 with ⟨g2, h2⟩ | ⟨g2, h2⟩ | ⟨g2, h2⟩ <;> first | omega | (rcases h3 with ⟨g3, h3⟩ | ⟨g3, h3⟩ | ⟨g3, h3⟩ <;> omega)
/-- The difference of two cards, digit by digit. -/
def subN : Nat → Nat → Nat → Nat
  | 0, _, _ => 0
  | d + 1, x, y => (x % 3 + 3 - y % 3) % 3 + 3 * subN d (x / 3) (y / 3)
theorem subN_lt (d x y : Nat) : subN d x y < 3 ^ d := by
  induction d generalizing x y with
  | zero => exact Nat.one_pos
  | succ d ih => rw [subN, Nat.pow_succ]; have := ih (x / 3) (y / 3); omega
theorem subN_zero (d x y : Nat) (hx : x < 3 ^ d) (hy : y < 3 ^ d) (h : subN d x y = 0) : x = y := by
  induction d generalizing x y with
  | zero => simp at hx hy; omega
  | succ d ih =>
    rw [Nat.pow_succ] at hx hy
    rw [subN] at h
    have := ih (x / 3) (y / 3) (by omega) (by omega) (by omega)
    omega
theorem dot_sub (d u x y : Nat) : (dotN d u (subN d x y) + dotN d u y) % 3 = dotN d u x := by
  induction d generalizing u x y with
  | zero => rfl
  | succ d ih =>
    have h := ih (u / 3) (x / 3) (y / 3)
    have e1 : subN (d + 1) x y % 3 = (x % 3 + 3 - y % 3) % 3 := by rw [subN]; omega
    have e2 : subN (d + 1) x y / 3 = subN d (x / 3) (y / 3) := by rw [subN]; omega
    have h1 := dot_step (d := d) (u := u) (x := subN (d + 1) x y)
    have h2 := dot_step (d := d) (u := u) (x := x)
    have h3 := dot_step (d := d) (u := u) (x := y)
    rw [e1, e2] at h1
    generalize dotN (d + 1) u (subN (d + 1) x y) = A at *
    generalize dotN (d + 1) u x = B at *
    generalize dotN (d + 1) u y = C at *
    generalize dotN d (u / 3) (subN d (x / 3) (y / 3)) = a at *
    generalize dotN d (u / 3) (x / 3) = b at *
    generalize dotN d (u / 3) (y / 3) = c at *
    clear ih e1 e2
    rcases h1 with ⟨g, h1⟩ | ⟨g, h1⟩ | ⟨g, h1⟩ <;> rcases h2 with ⟨g2, h2⟩ | ⟨g2, h2⟩ | ⟨g2, h2⟩ <;> first | omega | (rcases h3 with ⟨g3, h3⟩ | ⟨g3, h3⟩ | ⟨g3, h3⟩ <;> omega)
theorem dot_same (d u x y : Nat) : dotN d u x = dotN d u y ↔ dotN d u (subN d x y) = 0 := by
  have h := dot_sub d u x y
  have h1 := dotN_lt d u x
  have h2 := dotN_lt d u y
  have h3 := dotN_lt d u (subN d x y)
  omega

/-- The directions. -/
def dirs : Nat → List Nat
  | 0 => []
  | d + 1 => dirs d ++ List.range' (3 ^ d) (3 ^ d)
def ind (b : Bool) : Nat := if b then 1 else 0
def sumF (f : Nat → Nat) (l : List Nat) : Nat := (l.map f).sum
theorem sumF_cons (f : Nat → Nat) (x : Nat) (l : List Nat) : sumF f (x :: l) = f x + sumF f l := rfl
theorem sumF_congr {f g : Nat → Nat} {l : List Nat} (h : ∀ x ∈ l, f x = g x) : sumF f l = sumF g l := by unfold sumF; rw [List.map_congr_left h]
theorem sumF_add (f g : Nat → Nat) (l : List Nat) : sumF (fun x => f x + g x) l = sumF f l + sumF g l := by
  induction l with
  | nil => rfl
  | cons x l ih => rw [sumF_cons, sumF_cons, sumF_cons, ih]; omega
theorem sumF_mul (c : Nat) (f : Nat → Nat) (l : List Nat) : sumF (fun x => c * f x) l = c * sumF f l := by
  induction l with
  | nil => rfl
  | cons x l ih => rw [sumF_cons, sumF_cons, ih, Nat.mul_add]
theorem sumF_const {f : Nat → Nat} {c : Nat} {l : List Nat} (h : ∀ x ∈ l, f x = c) : sumF f l = c * l.length := by
  induction l with
  | nil => rfl
  | cons x l ih => rw [sumF_cons, ih fun y hy => h y (by simp [hy]), h x (by simp), List.length_cons, Nat.mul_add]; omega
theorem sumF_swap (f : Nat → Nat → Nat) (l m : List Nat) : sumF (fun x => sumF (f x) m) l = sumF (fun y => sumF (fun x => f x y) l) m := by
  induction l with
  | nil =>
    rw [sumF_const (f := fun y => sumF (fun x => f x y) []) (c := 0) (fun _ _ => rfl), Nat.zero_mul]; rfl
  | cons x l ih =>
    rw [sumF_cons, ih, ← sumF_add]
    exact sumF_congr fun y _ => rfl
theorem sumF_le {f g : Nat → Nat} {l : List Nat} (h : ∀ x ∈ l, f x ≤ g x) : sumF f l ≤ sumF g l := by
  induction l with
  | nil => exact Nat.le_refl _
  | cons x l ih =>
    rw [sumF_cons, sumF_cons]
    have := ih fun y hy => h y (by simp [hy])
    have := h x (by simp)
    omega
theorem sumF_erase (f : Nat → Nat) {x : Nat} {l : List Nat} (h : x ∈ l) : sumF f l = f x + sumF f (l.erase x) := by
  induction l with
  | nil => cases h
  | cons y l ih =>
    by_cases e : y = x
    · subst e; rw [List.erase_cons_head, sumF_cons]
    · rw [List.erase_cons_tail (by simpa using e), sumF_cons, sumF_cons, ih (by rcases List.mem_cons.1 h with h | h; exact absurd h.symm e; exact h)]
      omega
theorem sumF_one {f : Nat → Nat} {x a c : Nat} {l : List Nat} (hn : l.Nodup) (h : x ∈ l) (ha : f x = a) (hc : ∀ y ∈ l, y ≠ x → f y = c) : sumF f l = a + c * (l.length - 1) := by
  rw [sumF_erase f h, ha, sumF_const (c := c), List.length_erase_of_mem h]
  intro y hy
  have := (hn.mem_erase_iff).1 hy
  exact hc y this.2 this.1
theorem sumF_two {f : Nat → Nat} {x y a b c : Nat} {l : List Nat} (hn : l.Nodup) (hx : x ∈ l) (hy : y ∈ l) (hxy : y ≠ x) (ha : f x = a) (hb : f y = b) (hc : ∀ z ∈ l, z ≠ x → z ≠ y → f z = c) : sumF f l = a + (b + c * (l.length - 2)) := by
  rw [sumF_erase f hx, ha, sumF_one (hn.erase x) ((hn.mem_erase_iff).2 ⟨hxy, hy⟩) hb (c := c), List.length_erase_of_mem hx]
  · rfl
  · intro z hz hne
    have := (hn.mem_erase_iff).1 hz
    exact hc z this.2 this.1 hne

/-- How many directions have one value at two cards: all, or c. -/
def same2 (d x y : Nat) : Nat := sumF (fun u => ind (dotN d u y == dotN d u x)) (dirs d)
theorem same2_self (d x : Nat) : same2 d x x = (dirs d).length := by
  unfold same2
  rw [sumF_const (c := 1)]
  · omega
  · intro u _; simp [ind]
def dirC : Nat → Nat
  | 2 => 1 | 3 => 4 | 4 => 13 | _ => 0
def zeros (d e : Nat) : Nat := sumF (fun u => ind (dotN d u e == 0)) (dirs d)
theorem zeros2 : ((List.range 9).all fun e => e == 0 || zeros 2 e == 1) = true := by decide +kernel
theorem zeros3 : ((List.range 27).all fun e => e == 0 || zeros 3 e == 4) = true := by decide +kernel
theorem zeros4 : ((List.range 81).all fun e => e == 0 || zeros 4 e == 13) = true := by decide +kernel
theorem zeros_all {d e : Nat} (h1 : 2 ≤ d) (h4 : d ≤ 4) (he : e < 3 ^ d) (h0 : e ≠ 0) : zeros d e = dirC d := by
  rcases (show d = 2 ∨ d = 3 ∨ d = 4 by omega) with rfl | rfl | rfl
  · have := List.all_eq_true.1 zeros2 e (List.mem_range.2 he)
    rw [Bool.or_eq_true, beq_iff_eq, beq_iff_eq] at this
    exact this.resolve_left h0
  · have := List.all_eq_true.1 zeros3 e (List.mem_range.2 he)
    rw [Bool.or_eq_true, beq_iff_eq, beq_iff_eq] at this
    exact this.resolve_left h0
  · have := List.all_eq_true.1 zeros4 e (List.mem_range.2 he)
    rw [Bool.or_eq_true, beq_iff_eq, beq_iff_eq] at this
    exact this.resolve_left h0
theorem same2_ne {d x y : Nat} (h1 : 2 ≤ d) (h4 : d ≤ 4) (hx : x < 3 ^ d) (hy : y < 3 ^ d) (h : y ≠ x) : same2 d x y = dirC d := by
  rw [← zeros_all h1 h4 (subN_lt d y x) fun e => h (subN_zero d y x hy hx e)]
  unfold same2 zeros
  refine sumF_congr fun u _ => ?_
  have := dot_same d u y x
  unfold ind
  by_cases g : dotN d u y = dotN d u x
  · rw [this.1 g, g]; simp
  · have g' : ¬ dotN d u (subN d y x) = 0 := fun e => g (this.2 e)
    simp [g, g']

/-- How many cards have the value. -/
def cntN (d u c : Nat) (l : List Nat) : Nat := sumF (fun y => ind (dotN d u y == c)) l
theorem cnt_part (d u : Nat) (g : Nat → Nat) (l : List Nat) : sumF (fun x => g (dotN d u x)) l = cntN d u 0 l * g 0 + (cntN d u 1 l * g 1 + cntN d u 2 l * g 2) := by
  unfold cntN
  induction l with
  | nil => simp [sumF]
  | cons x l ih =>
    rw [sumF_cons, sumF_cons, sumF_cons, sumF_cons, ih]
    have := dotN_lt d u x
    rcases (show dotN d u x = 0 ∨ dotN d u x = 1 ∨ dotN d u x = 2 by omega) with e | e | e <;> rw [e] <;> simp [ind, Nat.add_mul] <;> omega
theorem cnt_sum (d u : Nat) (l : List Nat) : cntN d u 0 l + (cntN d u 1 l + cntN d u 2 l) = l.length := by
  have := cnt_part d u (fun _ => 1) l
  rw [sumF_const (c := 1) (fun _ _ => rfl)] at this
  omega
def sq2 (d u : Nat) (l : List Nat) : Nat := cntN d u 0 l * cntN d u 0 l + (cntN d u 1 l * cntN d u 1 l + cntN d u 2 l * cntN d u 2 l)
def cu3 (d u : Nat) (l : List Nat) : Nat := cntN d u 0 l * (cntN d u 0 l * cntN d u 0 l) + (cntN d u 1 l * (cntN d u 1 l * cntN d u 1 l) + cntN d u 2 l * (cntN d u 2 l * cntN d u 2 l))

/-- A cap, as a set. -/
structure CapS (d : Nat) (l : List Nat) : Prop where
  nd : l.Nodup
  bd : ∀ x ∈ l, x < 3 ^ d
  no : ∀ a ∈ l, ∀ b ∈ l, a ≠ b → thirdN d a b ∉ l
theorem CapS.sub {d : Nat} {l m : List Nat} (h : CapS d l) (hs : List.Sublist m l) : CapS d m :=
  ⟨h.nd.sublist hs, fun x hx => h.bd x (hs.subset hx), fun a ha b hb hab hc => h.no a (hs.subset ha) b (hs.subset hb) hab (hs.subset hc)⟩

theorem squares (d : Nat) (l : List Nat) (h1 : 2 ≤ d) (h4 : d ≤ 4) (h : CapS d l) : sumF (fun u => sq2 d u l) (dirs d) = l.length * ((dirs d).length + dirC d * (l.length - 1)) := by
  have e1 : ∀ u ∈ dirs d, sq2 d u l = sumF (fun x => sumF (fun y => ind (dotN d u y == dotN d u x)) l) l := by
    intro u _
    exact (cnt_part d u (fun c => cntN d u c l) l).symm
  rw [sumF_congr e1, sumF_swap (fun u x => sumF (fun y => ind (dotN d u y == dotN d u x)) l) (dirs d) l, sumF_const (c := (dirs d).length + dirC d * (l.length - 1)), Nat.mul_comm]
  intro x hx
  rw [sumF_swap (fun u y => ind (dotN d u y == dotN d u x)) (dirs d) l]
  exact sumF_one h.nd hx (same2_self d x) fun y hy hne => same2_ne h1 h4 (h.bd x hx) (h.bd y hy) hne
theorem ind_and (a b : Bool) : ind a * ind b = ind (a && b) := by cases a <;> cases b <;> rfl
/-- How many directions have one value at three cards. -/
def same3 (d x y z : Nat) : Nat := sumF (fun u => ind (dotN d u y == dotN d u x) * ind (dotN d u z == dotN d u x)) (dirs d)
theorem same3_xx (d x z : Nat) : same3 d x x z = same2 d x z := by
  unfold same3 same2
  exact sumF_congr fun u _ => by simp [ind]
theorem same3_yx (d x y : Nat) : same3 d x y x = same2 d x y := by
  unfold same3 same2
  exact sumF_congr fun u _ => by simp [ind]
theorem same3_yy (d x y : Nat) : same3 d x y y = same2 d x y := by
  unfold same3 same2
  exact sumF_congr fun u _ => by rw [ind_and, Bool.and_self]
theorem ind_four {a b c t : Nat} (ha : a < 3) (hb : b < 3) (hc : c < 3) (ht : t < 3) (h : (t + b + c) % 3 = 0) : ind (b == a) + (ind (c == a) + (ind (c == b) + ind (t == a))) = 1 + 3 * (ind (b == a) * ind (c == a)) := by
  have ha' : a = 0 ∨ a = 1 ∨ a = 2 := by omega
  have hb' : b = 0 ∨ b = 1 ∨ b = 2 := by omega
  have hc' : c = 0 ∨ c = 1 ∨ c = 2 := by omega
  have ht' : t = (6 - b - c) % 3 := by omega
  subst ht'
  rcases ha' with rfl | rfl | rfl <;> rcases hb' with rfl | rfl | rfl <;> rcases hc' with rfl | rfl | rfl <;> rfl
theorem same3_ne {x y z : Nat} (hx : x < 3 ^ 4) (hy : y < 3 ^ 4) (hz : z < 3 ^ 4) (hxy : y ≠ x) (hxz : z ≠ x) (hyz : z ≠ y) (ht : thirdN 4 y z ≠ x) : same3 4 x y z = 4 := by
  have e : sumF (fun u => ind (dotN 4 u y == dotN 4 u x) + (ind (dotN 4 u z == dotN 4 u x) + (ind (dotN 4 u z == dotN 4 u y) + ind (dotN 4 u (thirdN 4 y z) == dotN 4 u x)))) (dirs 4) = sumF (fun u => 1 + 3 * (ind (dotN 4 u y == dotN 4 u x) * ind (dotN 4 u z == dotN 4 u x))) (dirs 4) :=
    sumF_congr fun u _ => ind_four (dotN_lt _ _ _) (dotN_lt _ _ _) (dotN_lt _ _ _) (dotN_lt _ _ _) (dot_third 4 u y z)
  rw [sumF_add, sumF_add, sumF_add, sumF_add, sumF_mul] at e
  have h1 := same2_ne (d := 4) (by omega) (by omega) hx hy hxy
  have h2 := same2_ne (d := 4) (by omega) (by omega) hx hz hxz
  have h3 := same2_ne (d := 4) (by omega) (by omega) hy hz hyz
  have h4 := same2_ne (d := 4) (by omega) (by omega) hx (thirdN_lt 4 y z) ht
  unfold same2 at h1 h2 h3 h4
  rw [h1, h2, h3, h4, sumF_const (c := 1) (fun _ _ => rfl)] at e
  unfold same3
  have h5 : (dirs 4).length = 40 := rfl
  have h6 : dirC 4 = 13 := rfl
  omega
theorem cubes (l : List Nat) (h : CapS 4 l) (hl : l.length = 21) : sumF (fun u => cu3 4 u l) (dirs 4) = 49140 := by
  have e0 : ∀ u x, sumF (fun y => ind (dotN 4 u y == dotN 4 u x)) l * sumF (fun y => ind (dotN 4 u y == dotN 4 u x)) l = sumF (fun y => sumF (fun z => ind (dotN 4 u y == dotN 4 u x) * ind (dotN 4 u z == dotN 4 u x)) l) l := by
    intro u x
    rw [← sumF_mul]
    refine sumF_congr fun y _ => ?_
    rw [sumF_mul, Nat.mul_comm]
  have e1 : ∀ u ∈ dirs 4, cu3 4 u l = sumF (fun x => sumF (fun y => sumF (fun z => ind (dotN 4 u y == dotN 4 u x) * ind (dotN 4 u z == dotN 4 u x)) l) l) l := by
    intro u _
    rw [← sumF_congr fun x _ => e0 u x]
    exact (cnt_part 4 u (fun c => cntN 4 u c l * cntN 4 u c l) l).symm
  rw [sumF_congr e1, sumF_swap (fun u x => sumF (fun y => sumF (fun z => ind (dotN 4 u y == dotN 4 u x) * ind (dotN 4 u z == dotN 4 u x)) l) l) (dirs 4) l, sumF_const (c := 2340), hl]
  intro x hx
  rw [sumF_swap (fun u y => sumF (fun z => ind (dotN 4 u y == dotN 4 u x) * ind (dotN 4 u z == dotN 4 u x)) l) (dirs 4) l]
  have hs : ∀ y, sumF (fun u => sumF (fun z => ind (dotN 4 u y == dotN 4 u x) * ind (dotN 4 u z == dotN 4 u x)) l) (dirs 4) = sumF (fun z => same3 4 x y z) l := fun y => sumF_swap (fun u z => ind (dotN 4 u y == dotN 4 u x) * ind (dotN 4 u z == dotN 4 u x)) (dirs 4) l
  rw [sumF_congr fun y _ => hs y]
  have h2 : ∀ y ∈ l, y ≠ x → same2 4 x y = 13 := fun y hy hne => same2_ne (by omega) (by omega) (h.bd x hx) (h.bd y hy) hne
  have hself : same2 4 x x = 40 := same2_self 4 x
  rw [sumF_one (a := 300) (c := 102) h.nd hx, hl]
  · rw [sumF_one (a := 40) (c := 13) h.nd hx, hl]
    · rw [same3_xx]; exact hself
    · intro z hz hne; rw [same3_xx]; exact h2 z hz hne
  · intro y hy hne
    rw [sumF_two (a := 13) (b := 13) (c := 4) h.nd hx hy hne, hl]
    · rw [same3_yx]; exact h2 y hy hne
    · rw [same3_yy]; exact h2 y hy hne
    · intro z hz h3 h4
      exact same3_ne (h.bd x hx) (h.bd y hy) (h.bd z hz) hne h3 h4 fun e => h.no y hy z hz (Ne.symm h4) (e ▸ hx)

/-- A card without one of its digits. -/
def dropN : Nat → Nat → Nat
  | 0, x => x / 3
  | i + 1, x => x % 3 + 3 * dropN i (x / 3)
theorem dropN_lt (i d x : Nat) (hi : i ≤ d) (hx : x < 3 ^ (d + 1)) : dropN i x < 3 ^ d := by
  induction i generalizing d x with
  | zero => rw [dropN]; rw [Nat.pow_succ] at hx; omega
  | succ i ih =>
    cases d with
    | zero => omega
    | succ d =>
      rw [dropN]
      have := ih d (x / 3) (by omega) (by rw [Nat.pow_succ] at hx; omega)
      rw [Nat.pow_succ]; omega
theorem drop_third (i d x y : Nat) (hi : i ≤ d) : dropN i (thirdN (d + 1) x y) = thirdN d (dropN i x) (dropN i y) := by
  induction i generalizing d x y with
  | zero => rw [dropN, dropN, dropN, thirdN]; omega
  | succ i ih =>
    cases d with
    | zero => omega
    | succ d =>
      have h := ih d (x / 3) (y / 3) (by omega)
      rw [dropN]
      have e1 : thirdN (d + 1 + 1) x y % 3 = (6 - x % 3 - y % 3) % 3 := by rw [thirdN]; omega
      have e2 : thirdN (d + 1 + 1) x y / 3 = thirdN (d + 1) (x / 3) (y / 3) := by rw [thirdN]; omega
      rw [e1, e2, h, thirdN]
      have e3 : ∀ x, dropN (i + 1) x % 3 = x % 3 := fun x => by rw [dropN]; omega
      have e4 : ∀ x, dropN (i + 1) x / 3 = dropN i (x / 3) := fun x => by rw [dropN]; omega
      rw [e3, e3, e4, e4]
theorem drop_inj (i d u x y : Nat) (hi : i ≤ d) (hu : u / 3 ^ i % 3 ≠ 0) (hx : x < 3 ^ (d + 1)) (hy : y < 3 ^ (d + 1)) (h : dotN (d + 1) u x = dotN (d + 1) u y) (hd : dropN i x = dropN i y) : x = y := by
  induction i generalizing d u x y with
  | zero =>
    rw [dropN, dropN] at hd
    rw [Nat.pow_zero, Nat.div_one] at hu
    have h1 := dot_step (d := d) (u := u) (x := x)
    have h2 := dot_step (d := d) (u := u) (x := y)
    rw [hd] at h1
    rw [h] at h1
    generalize dotN d (u / 3) (y / 3) = a at *
    generalize dotN (d + 1) u y = b at *
    omega
  | succ i ih =>
    cases d with
    | zero => omega
    | succ d =>
      rw [dropN, dropN] at hd
      have h0 : x % 3 = y % 3 := by omega
      have h3 := ih d (u / 3) (x / 3) (y / 3) (by omega) (by rw [Nat.div_div_eq_div_mul, Nat.mul_comm, ← Nat.pow_succ]; exact hu) (by rw [Nat.pow_succ] at hx; omega) (by rw [Nat.pow_succ] at hy; omega) (by
        have h1 := dot_step (d := d + 1) (u := u) (x := x)
        have h2 := dot_step (d := d + 1) (u := u) (x := y)
        have l1 := dotN_lt (d + 1) (u / 3) (x / 3)
        have l2 := dotN_lt (d + 1) (u / 3) (y / 3)
        rw [h] at h1
        generalize dotN (d + 1) (u / 3) (x / 3) = a at *
        generalize dotN (d + 1) (u / 3) (y / 3) = c at *
        generalize dotN (d + 1 + 1) u y = b at *
        omega) (by omega)
      omega
theorem filterF_len (f : Nat → Bool) (l : List Nat) : (l.filter f).length = sumF (fun x => ind (f x)) l := by
  induction l with
  | nil => rfl
  | cons x l ih =>
    rw [List.filter_cons, sumF_cons, ← ih]
    cases f x <;> simp [ind] <;> omega
/-- The cards of a cap in a plane are as many as a cap has that is a dimension less. -/
theorem plane_cap {d i u c : Nat} {l : List Nat} (hi : i ≤ d) (hu : u / 3 ^ i % 3 ≠ 0) (h : CapS (d + 1) l) : ∃ m, CapS d m ∧ m.length = cntN (d + 1) u c l := by
  have hinj : ∀ x ∈ l.filter (fun x => dotN (d + 1) u x == c), ∀ y ∈ l.filter (fun x => dotN (d + 1) u x == c), dropN i x = dropN i y → x = y := by
    intro x hx y hy e
    obtain ⟨hx1, hx2⟩ := List.mem_filter.1 hx
    obtain ⟨hy1, hy2⟩ := List.mem_filter.1 hy
    have hx2 := beq_iff_eq.1 hx2
    have hy2 := beq_iff_eq.1 hy2
    exact drop_inj i d u x y hi hu (h.bd x hx1) (h.bd y hy1) (by rw [hx2, hy2]) e
  have hnd : (l.filter (fun x => dotN (d + 1) u x == c)).Nodup := h.nd.filter _
  refine ⟨(l.filter (fun x => dotN (d + 1) u x == c)).map (dropN i), ⟨?_, ?_, ?_⟩, ?_⟩
  · unfold List.Nodup
    rw [List.pairwise_map]
    refine List.Pairwise.imp_of_mem ?_ hnd
    intro a b ha hb hne e
    exact hne (hinj a ha b hb e)
  · intro x hx
    obtain ⟨y, hy, rfl⟩ := List.mem_map.1 hx
    exact dropN_lt i d y hi (h.bd y (List.mem_filter.1 hy).1)
  · intro a ha b hb hab hc
    obtain ⟨x, hx, rfl⟩ := List.mem_map.1 ha
    obtain ⟨y, hy, rfl⟩ := List.mem_map.1 hb
    obtain ⟨z, hz, ez⟩ := List.mem_map.1 hc
    have hxy : x ≠ y := fun e => hab (by rw [e])
    have hx' := List.mem_filter.1 hx
    have hy' := List.mem_filter.1 hy
    have hz' := List.mem_filter.1 hz
    refine h.no x hx'.1 y hy'.1 hxy ?_
    have e : thirdN (d + 1) x y = z := by
      refine drop_inj i d u _ _ hi hu (thirdN_lt (d + 1) x y) (h.bd z hz'.1) ?_ (by rw [drop_third i d x y hi, ez])
      have h1 := dot_third (d + 1) u x y
      have h2 := beq_iff_eq.1 hx'.2
      have h3 := beq_iff_eq.1 hy'.2
      have h4 := beq_iff_eq.1 hz'.2
      have h5 := dotN_lt (d + 1) u (thirdN (d + 1) x y)
      have h6 := dotN_lt (d + 1) u x
      omega
    rw [e]
    exact hz'.1
  · rw [List.length_map, filterF_len]
    rfl
/-- Each direction has a digit that is not 0. -/
theorem dirs_digit {d : Nat} : ∀ u ∈ dirs (d + 1), ∃ i, i ≤ d ∧ u / 3 ^ i % 3 ≠ 0 := by
  induction d with
  | zero =>
    intro u hu
    have : u = 1 := by simpa [dirs] using hu
    exact ⟨0, Nat.le_refl _, by subst this; decide⟩
  | succ d ih =>
    intro u hu
    rw [dirs, List.mem_append] at hu
    rcases hu with hu | hu
    · obtain ⟨i, hi, h⟩ := ih u hu
      exact ⟨i, by omega, h⟩
    · rw [List.mem_range'_1] at hu
      refine ⟨d + 1, Nat.le_refl _, ?_⟩
      have hp : 0 < 3 ^ (d + 1) := Nat.pow_pos (by omega)
      have h1 : 1 ≤ u / 3 ^ (d + 1) := (Nat.le_div_iff_mul_le hp).2 (by omega)
      have h2 : u / 3 ^ (d + 1) < 2 := (Nat.div_lt_iff_lt_mul hp).2 (by omega)
      omega
theorem cap1 {l : List Nat} (h : CapS 1 l) : l.length ≤ 2 := by
  match l, h with
  | [], _ => exact Nat.zero_le _
  | [_], _ => exact Nat.le_succ _
  | [_, _], _ => exact Nat.le_refl _
  | a :: b :: c :: t, h =>
    exfalso
    have ha := h.bd a (by simp)
    have hb := h.bd b (by simp)
    have hc := h.bd c (by simp)
    have hn := h.nd
    simp only [List.nodup_cons, List.mem_cons, not_or] at hn
    have hno := h.no a (by simp) b (by simp) hn.1.1
    have e : thirdN 1 a b = c := by
      rw [thirdN, thirdN]
      omega
    exact hno (by rw [e]; simp)
theorem cnt_le {d u c M : Nat} {l : List Nat} (hM : ∀ m, CapS d m → m.length ≤ M) (h : CapS (d + 1) l) (hu : u ∈ dirs (d + 1)) : cntN (d + 1) u c l ≤ M := by
  obtain ⟨i, hi, hd⟩ := dirs_digit u hu
  obtain ⟨m, hm, e⟩ := plane_cap (c := c) hi hd h
  rw [← e]
  exact hM m hm
theorem tri2 : ∀ a, a < 3 → ∀ b, b < 3 → ∀ c, c < 3 → a + (b + c) = 5 → a * a + (b * b + c * c) ≤ 9 := by decide
theorem tri3 : ∀ a, a < 5 → ∀ b, b < 5 → ∀ c, c < 5 → a + (b + c) = 10 → a * a + (b * b + c * c) ≤ 36 := by decide
theorem few_of (d M : Nat) (l : List Nat) (h : CapS d l) (hno : ∀ m, CapS d m → m.length = M + 1 → False) : l.length ≤ M := by
  refine Nat.le_of_not_lt fun hlt => hno (l.take (M + 1)) (h.sub (List.take_sublist _ _)) ?_
  rw [List.length_take]; omega
theorem cap2 {l : List Nat} (h : CapS 2 l) : l.length ≤ 4 := by
  refine few_of 2 4 l h fun m hm hl => ?_
  have h1 := squares 2 m (by omega) (by omega) hm
  have h2 : sumF (fun u => sq2 2 u m) (dirs 2) ≤ sumF (fun _ => 9) (dirs 2) := sumF_le fun u hu =>
    tri2 _ (Nat.lt_succ_of_le (cnt_le (fun m hm => cap1 hm) hm hu)) _ (Nat.lt_succ_of_le (cnt_le (fun m hm => cap1 hm) hm hu)) _ (Nat.lt_succ_of_le (cnt_le (fun m hm => cap1 hm) hm hu)) (by rw [cnt_sum, hl])
  rw [h1, hl, sumF_const (c := 9) (fun _ _ => rfl)] at h2
  have h5 : (dirs 2).length = 4 := rfl
  have h6 : dirC 2 = 1 := rfl
  omega
theorem cap3 {l : List Nat} (h : CapS 3 l) : l.length ≤ 9 := by
  refine few_of 3 9 l h fun m hm hl => ?_
  have h1 := squares 3 m (by omega) (by omega) hm
  have h2 : sumF (fun u => sq2 3 u m) (dirs 3) ≤ sumF (fun _ => 36) (dirs 3) := sumF_le fun u hu =>
    tri3 _ (Nat.lt_succ_of_le (cnt_le (fun m hm => cap2 hm) hm hu)) _ (Nat.lt_succ_of_le (cnt_le (fun m hm => cap2 hm) hm hu)) _ (Nat.lt_succ_of_le (cnt_le (fun m hm => cap2 hm) hm hu)) (by rw [cnt_sum, hl])
  rw [h1, hl, sumF_const (c := 36) (fun _ _ => rfl)] at h2
  have h5 : (dirs 3).length = 13 := rfl
  have h6 : dirC 3 = 4 := rfl
  omega
def triB (a b c : Nat) : Bool := Nat.blt (19 * (a * a + (b * b + c * c))) (a * (a * a) + (b * (b * b) + c * (c * c)) + 1764) ||
  (a * (a * a) + (b * (b * b) + c * (c * c)) + 1764 == 19 * (a * a + (b * b + c * c)) && (a * a + (b * b + c * c) == 147 || a * a + (b * b + c * c) == 171))
theorem tri4 : ((List.range 10).all fun a => (List.range 10).all fun b => (List.range 10).all fun c => !(a + (b + c) == 21) || triB a b c) = true := by decide +kernel
theorem tri_of {a b c : Nat} (ha : a ≤ 9) (hb : b ≤ 9) (hc : c ≤ 9) (h : a + (b + c) = 21) : 19 * (a * a + (b * b + c * c)) < a * (a * a) + (b * (b * b) + c * (c * c)) + 1764 ∨
    (a * (a * a) + (b * (b * b) + c * (c * c)) + 1764 = 19 * (a * a + (b * b + c * c)) ∧ ∃ e, a * a + (b * b + c * c) = 147 + 24 * e) := by
  have h1 := List.all_eq_true.1 (List.all_eq_true.1 (List.all_eq_true.1 tri4 a (List.mem_range.2 (by omega))) b (List.mem_range.2 (by omega))) c (List.mem_range.2 (by omega))
  rw [h] at h1
  have h2 : triB a b c = true := by simpa using h1
  unfold triB at h2
  rw [Bool.or_eq_true, Bool.and_eq_true, Bool.or_eq_true, beq_iff_eq, beq_iff_eq, beq_iff_eq, Nat.blt_eq] at h2
  rcases h2 with h2 | ⟨h2, h3 | h3⟩
  · exact .inl h2
  · exact .inr ⟨h2, 0, h3⟩
  · exact .inr ⟨h2, 1, h3⟩
set_option maxRecDepth 100000 in
theorem sum_tri (l : List Nat) (ds : List Nat) (h : ∀ u ∈ ds, 19 * sq2 4 u l < cu3 4 u l + 1764 ∨ (cu3 4 u l + 1764 = 19 * sq2 4 u l ∧ ∃ e, sq2 4 u l = 147 + 24 * e)) :
    19 * sumF (fun u => sq2 4 u l) ds < sumF (fun u => cu3 4 u l) ds + 1764 * ds.length ∨ (sumF (fun u => cu3 4 u l) ds + 1764 * ds.length = 19 * sumF (fun u => sq2 4 u l) ds ∧ ∃ e, sumF (fun u => sq2 4 u l) ds = 147 * ds.length + 24 * e) := by
  induction ds with
  | nil => exact .inr ⟨rfl, 0, rfl⟩
  | cons u ds ih =>
    rw [sumF_cons, sumF_cons, List.length_cons]
    have h1 := h u (by simp)
    have h0 := ih fun v hv => h v (by simp [hv])
    clear ih h
    generalize sumF (fun u => sq2 4 u l) ds = A at *
    generalize sumF (fun u => cu3 4 u l) ds = B at *
    generalize sq2 4 u l = a at *
    generalize cu3 4 u l = b at *
    generalize ds.length = n at *
    rcases h0 with h2 | ⟨h2, e2, h3⟩
    · left
      rcases h1 with h1 | ⟨h1, _⟩ <;> omega
    · rcases h1 with h1 | ⟨h1, e1, h4⟩
      · left; omega
      · right
        refine ⟨?_, e1 + e2, ?_⟩
        · rw [Nat.mul_add, Nat.mul_one, Nat.mul_add, ← h1, ← h2]; clear h1 h2 h3 h4; omega
        · rw [h3, h4, Nat.mul_add, Nat.mul_add]; clear h1 h2 h3 h4; omega
theorem cap4 {l : List Nat} (h : CapS 4 l) : l.length ≤ 20 := by
  refine few_of 4 20 l h fun m hm hl => ?_
  have h1 := squares 4 m (by omega) (by omega) hm
  have h2 := cubes m hm hl
  have h5 : (dirs 4).length = 40 := rfl
  have h6 : dirC 4 = 13 := rfl
  rw [hl, h5, h6] at h1
  have h3 := sum_tri m (dirs 4) fun u hu => tri_of (cnt_le (fun m hm => cap3 hm) hm hu) (cnt_le (fun m hm => cap3 hm) hm hu) (cnt_le (fun m hm => cap3 hm) hm hu) (by rw [cnt_sum, hl])
  rw [h1, h2, h5] at h3
  rcases h3 with h3 | ⟨_, e, h3⟩ <;> omega
def capM : Nat → Nat
  | 1 => 2 | 2 => 4 | 3 => 9 | 4 => 20 | _ => 0
theorem cap_most {d : Nat} {l : List Nat} (h1 : 1 ≤ d) (h4 : d ≤ 4) (h : CapS d l) : l.length ≤ capM d := by
  rcases (show d = 1 ∨ d = 2 ∨ d = 3 ∨ d = 4 by omega) with rfl | rfl | rfl | rfl
  · exact cap1 h
  · exact cap2 h
  · exact cap3 h
  · exact cap4 h

/-- A rising slice of cards keeps to the rule exactly if no three of it are a set. -/
theorem keeps_capS {d : Nat} {l : List Nat} (h : Deck d l) : keepsL (mayB d) l = true ↔ CapS d l := by
  obtain ⟨hu, hb⟩ := h
  rw [keepsL_iff]
  constructor
  · intro hk
    refine ⟨hu.imp fun h => by omega, hb, fun a ha b hb' hab hc => ?_⟩
    obtain ⟨i, hi, rfl⟩ := mem_at ha
    obtain ⟨j, hj, rfl⟩ := mem_at hb'
    obtain ⟨k, hk', ek⟩ := mem_at hc
    have hbi := hb _ (at_mem hi)
    have hbj := hb _ (at_mem hj)
    have hij : i ≠ j := fun e => hab (by rw [e])
    have hki : k ≠ i := fun e => hab (thirdN_eq d _ _ hbi hbj (by rw [← ek, e]))
    have hkj : k ≠ j := fun e => hab (thirdN_eq d _ _ hbj hbi (by rw [thirdN_comm, ← ek, e])).symm
    have key : ∀ i j k, i < l.length → j < i → k < i → thirdN d (l.getD j 0) (l.getD i 0) = l.getD k 0 → False := by
      intro i j k hi hj hk2 e
      have := (mayB_iff d _ _).1 (hk i hi) (l.getD j 0) ((mem_take_at (by omega)).2 ⟨j, hj, rfl⟩)
      exact this (by rw [e]; exact (mem_take_at (by omega)).2 ⟨k, hk2, rfl⟩)
    rcases (show (j < i ∧ k < i) ∨ (i < j ∧ k < j) ∨ (i < k ∧ j < k) by omega) with ⟨g, g'⟩ | ⟨g, g'⟩ | ⟨g, g'⟩
    · exact key i j k hi g g' (by rw [thirdN_comm, ek])
    · exact key j i k hj g g' ek.symm
    · exact key k i j hk' g g' (by rw [ek, thirdN_back d _ _ hbj])
  · intro h i hi
    rw [mayB_iff]
    intro a ha hc
    rw [mem_take_at (by omega)] at ha hc
    obtain ⟨j, hj, rfl⟩ := ha
    obtain ⟨k, hk, e⟩ := hc
    refine h.no (l.getD j 0) (at_mem (by omega)) (l.getD i 0) (at_mem hi) (fun g => ?_) (by rw [← e]; exact at_mem (by omega))
    have := up_inj hu (by omega) hi g
    omega
/-- The greatest caps. -/
def greatN (d : Nat) : List Nat := longL (mayB d) (List.range' 0 (3 ^ d))
theorem greatN_up (d : Nat) : Up (greatN d) := sub_up (long_keeps _ _).2 (up_range' 0 _)
theorem greatN_bd (d : Nat) : ∀ x ∈ greatN d, x < 3 ^ d := sub_bd (long_keeps _ _).2
theorem greatN_cap (d : Nat) : keepsL (mayB d) (greatN d) = true := (long_keeps _ _).1
theorem greatN_most {d : Nat} {l : List Nat} (h : Deck d l) (hk : keepsL (mayB d) l = true) : l.length ≤ (greatN d).length :=
  long_most (up_sub (3 ^ d) l 0 h.1 fun x hx => by have := h.2 x hx; omega) hk
def exCap : Nat → List Nat
  | 1 => [0, 1] | 2 => [0, 1, 3, 4] | 3 => [0, 1, 3, 4, 9, 10, 14, 17, 23] | _ => []
theorem exCap_ok : ([1, 2, 3].all fun d => decide ((exCap d).Pairwise (· < ·)) && ((exCap d).all fun x => decide (x < 3 ^ d)) && keepsL (mayB d) (exCap d) && (exCap d).length == capM d) = true := by decide +kernel
theorem greatN_len {d : Nat} (h1 : 1 ≤ d) (h3 : d ≤ 3) : (greatN d).length = capM d := by
  have h := List.all_eq_true.1 exCap_ok d (by rcases (show d = 1 ∨ d = 2 ∨ d = 3 by omega) with rfl | rfl | rfl <;> simp)
  rw [Bool.and_eq_true, Bool.and_eq_true, Bool.and_eq_true, decide_eq_true_eq, List.all_eq_true, beq_iff_eq] at h
  obtain ⟨⟨⟨a, b⟩, c⟩, e⟩ := h
  have hd : Deck d (exCap d) := ⟨a, fun x hx => of_decide_eq_true (b x hx)⟩
  have h4 := greatN_most hd c
  have h5 := cap_most h1 (by omega) ((keeps_capS ⟨greatN_up d, greatN_bd d⟩).1 (greatN_cap d))
  omega
end Go.Proofs.Ytlalfjkenkmojaa
