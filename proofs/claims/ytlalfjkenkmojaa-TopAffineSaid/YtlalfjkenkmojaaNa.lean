/- rows of numbers as ints; Index, Contains, has -/
import Derived.Test.YtlalfjkenkmojaaSa
import Derived.Test.YtlalfjkenkmojaaRm
import Derived.IntWalk
namespace Go.Proofs.Ytlalfjkenkmojaa
open Go.RowKit

theorem vint {a b : Int} (h : a = b) : Value.int .i64 a = Value.int .i64 b := by rw [h]
/-- A row of numbers, as ints. -/
def nats (hs : List Nat) : List Int := hs.map fun (x : Nat) => (x : Int)
theorem nats_length (hs : List Nat) : (nats hs).length = hs.length := by simp [nats]
theorem nats_getD (hs : List Nat) (k : Nat) : (nats hs).getD k 0 = ((hs.getD k 0 : Nat) : Int) := by
  simp only [nats, List.getD_eq_getElem?_getD, List.getElem?_map]
  cases hs[k]? <;> rfl
abbrev Nats (w : World) (v : Value) (hs : List Nat) : Prop := Ints w v (nats hs)
theorem Nats.open {w : World} {v : Value} {hs : List Nat} (h : Nats w v hs) :
    ∃ ao cap, v = .slice ao hs.length cap ∧ hs.length ≤ cap ∧ hs.length ≤ 17592186044416 ∧
      (∀ k, k < hs.length → ∃ b o, ao = some ⟨b, o, none⟩ ∧ w.cell? ⟨b, o + k, none⟩ = some (.int .i64 (hs.getD k 0 : Nat))) := by
  obtain ⟨ao, cap, hv, h1, h2, h3⟩ := Ints.open h
  rw [nats_length] at *
  exact ⟨ao, cap, hv, h1, h2, fun k hk => by obtain ⟨b, o, e, hc⟩ := h3 k hk; rw [nats_getD] at hc; exact ⟨b, o, e, hc⟩⟩
theorem natD_mem {hs : List Nat} {k : Nat} (h : k < hs.length) : hs.getD k 0 ∈ hs := by simp [h]
theorem nats_snoc (hs : List Nat) (x : Nat) : nats (hs ++ [x]) = nats hs ++ [(x:Int)] := by simp [nats]
theorem nats_take (hs : List Nat) (k : Nat) : (nats hs).take k = nats (hs.take k) := by simp [nats]
theorem nats_drop (hs : List Nat) (k : Nat) : (nats hs).drop k = nats (hs.drop k) := by simp [nats]
theorem natT_snoc (ys : List Nat) (k : Nat) (h : k < ys.length) : ys.take (k + 1) = ys.take k ++ [ys.getD k 0] := by
  rw [List.take_succ_eq_append_getElem h]; simp [h]
theorem nats_I64 {hs : List Nat} (h : ∀ x ∈ hs, x < 65536) : ∀ x ∈ nats hs, I64 x := by
  intro x hx
  obtain ⟨y, hy, rfl⟩ := List.mem_map.1 hx
  have := h y hy
  unfold I64; omega
theorem nats_inj {a b : List Nat} (h : nats a = nats b) : a = b := by
  induction a generalizing b with
  | nil => cases b with
    | nil => rfl
    | cons y b => simp [nats] at h
  | cons x a ih => cases b with
    | nil => simp [nats] at h
    | cons y b =>
      simp only [nats, List.map_cons, List.cons.injEq] at h
      rw [ih h.2]; congr 1; omega
theorem nats_mem {a : List Nat} {x : Nat} : (x : Int) ∈ nats a ↔ x ∈ a := by
  unfold nats
  rw [List.mem_map]
  constructor
  · rintro ⟨y, hy, e⟩; obtain rfl : y = x := by omega
    exact hy
  · intro h; exact ⟨x, h, rfl⟩
theorem eqB_nats (a b : List Nat) : eqB (nats a) (nats b) = decide (a = b) := by
  unfold eqB
  by_cases h : a = b
  · subst h; simp
  · rw [decide_eq_false h, decide_eq_false fun e => h (nats_inj e)]
theorem eqB_refl (a : List Int) : eqB a a = true := decide_eq_true rfl
theorem Nats.take {w : World} {ao : Option Addr} {n cap : Nat} {xs : List Nat} (h : Nats w (.slice ao n cap) xs) {k : Nat} (hk : k ≤ n) : Nats w (.slice ao k cap) (xs.take k) := by
  have := Ints.take h hk
  rwa [nats_take] at this
theorem Nats.nil (w : World) : Nats w (.slice none 0 0) [] := ⟨⟨none, 0, rfl, Nat.le_refl _, Nat.zero_le _, Nat.zero_le _, .inl rfl⟩, by simp [nats]⟩
/-- The rest of a row, as the walk writes it. -/
theorem Nats.drop {w : World} {ao : Option Addr} {n cap : Nat} {xs : List Nat} (h : Nats w (.slice ao n cap) xs) {k : Nat} (hk : k ≤ n) :
    Nats w (.slice (if cap = k then ao else ao.map (·.add k)) (n - k) (cap - k)) (xs.drop k) := by
  obtain ⟨⟨ao', cap', hv, h1, h2, h3, h4⟩, hb⟩ := h
  simp only [Value.slice.injEq] at hv
  obtain ⟨rfl, hn, rfl⟩ := hv
  rw [ints_length, nats_length] at *
  have hl : (xs.drop k).length = n - k := by rw [List.length_drop]; omega
  refine ⟨⟨_, cap - k, by rw [ints_length, nats_length, hl], by rw [ints_length, nats_length]; omega, by rw [ints_length, nats_length]; omega, by unfold maxLen at *; omega, ?_⟩, fun x hx => hb x (by rw [← nats_drop] at hx; exact List.mem_of_mem_drop hx)⟩
  by_cases hnk : n = k
  · left
    have : xs.drop k = [] := List.drop_eq_nil_of_le (by omega)
    rw [this]; rfl
  rcases h4 with h4 | ⟨b, o, rfl, hlt, hc⟩
  · left
    have : xs = [] := by simpa [ints, nats] using h4
    subst this; simp [ints, nats]
  · rw [if_neg (by omega)]
    refine .inr ⟨b, o + k, by simp [Addr.add_lit], hlt, fun j x hx => ?_⟩
    rw [Nat.add_assoc]
    refine hc (k + j) x ?_
    simp only [ints, nats, List.map_drop, List.getElem?_drop] at hx ⊢
    exact hx

def idxI (xs : List Int) (x : Int) : Int := (xs.findIdx? (· == x)).elim (-1) fun (i : Nat) => (i : Int)
theorem idxI_some {xs : List Int} {x : Int} {k : Nat} (hk : k < xs.length) (h : ∀ j : Nat, j < k → xs.getD j 0 ≠ x) (h1 : xs.getD k 0 = x) : idxI xs x = k := by
  have : xs.findIdx? (· == x) = some k := by
    rw [List.findIdx?_eq_some_iff_getElem]
    refine ⟨hk, ?_, fun j hj => ?_⟩
    · have := h1; simp [hk] at this; simp [this]
    · have := h j hj; simp [show j < xs.length by omega] at this; simpa using this
  unfold idxI; rw [this]; rfl
theorem idxI_none {xs : List Int} {x : Int} (h : ∀ j : Nat, j < xs.length → xs.getD j 0 ≠ x) : idxI xs x = -1 := by
  have : xs.findIdx? (· == x) = none := by
    rw [List.findIdx?_eq_none_iff]
    intro u hu
    obtain ⟨j, hj, rfl⟩ := mem_getD hu
    simpa using h j hj
  unfold idxI; rw [this]; rfl
def hasB (xs : List Int) (x : Int) : Bool := decide (x ∈ xs)
theorem hasB_nats (l : List Nat) (x : Nat) : hasB (nats l) x = l.contains x := by
  unfold hasB
  rw [List.contains_eq_mem, Bool.eq_iff_iff, decide_eq_true_eq, decide_eq_true_eq, nats_mem]
theorem hasB_idx (xs : List Int) (x : Int) : decide (idxI xs x ≥ 0) = hasB xs x := by
  unfold hasB idxI
  cases h : xs.findIdx? (· == x) with
  | none =>
    have h2 : x ∉ xs := by
      rw [List.findIdx?_eq_none_iff] at h
      intro hx
      have := h x hx
      simp at this
    simp [h2]
  | some k =>
    have h2 : x ∈ xs := by
      rw [List.findIdx?_eq_some_iff_getElem] at h
      obtain ⟨hk, e, _⟩ := h
      have e : xs[k] = x := by simpa using e
      rw [← e]; exact List.getElem_mem hk
    simp [h2]

set_option maxHeartbeats 1000000 in
theorem index_any (v : Value) (xs : List Int) (x : Int) (w : World) (h : Ints w v xs) :
    Calls Try.prog 89 #[v, .int .i64 x] w fun e w' => e = .returned (.int .i64 (idxI xs x)) ∧ w = w' := by
  obtain ⟨ao, cap, rfl, h1, h2, hx⟩ := h.open
  have HX := Lib.hid hx
  clear h hx
  go_enter Try.func89, Try.ntmps89
  go_wp2
  go_loop [8] (fun i => ∃ k : Nat, k ≤ xs.length ∧ i = .int .i64 k ∧ ∀ j : Nat, j < k → xs.getD j 0 ≠ x) (fun i => xs.length - (intOf i).toNat)
  case atStart => exact ⟨0, Nat.zero_le _, rfl, fun j hj => absurd hj (by omega)⟩
  case round =>
    obtain ⟨k, hk, rfl, hall⟩ := hrel
    have HA := Lib.hid hall
    clear hall
    by_cases hlt : k < xs.length
    · obtain ⟨b, o, rfl, hck⟩ := HX.out k hlt
      by_cases heq : x = xs.getD k 0
      · have HI := Lib.hid (idxI_some hlt HA.out heq.symm)
        have hb : (x == xs.getD k 0) = true := by simpa using heq
        clear heq
        generalize xs.getD k 0 = z at *
        go_wp2
        go_ret
        exact ⟨ret_int HI.out.symm, rfl⟩
      · have H := Lib.hid (fun (j : Nat) (hj : j < k + 1) => if e : j = k then e ▸ (fun h => heq h.symm) else HA.out j (by omega))
        have hb : (x == xs.getD k 0) = false := by simpa using heq
        clear heq
        generalize xs.getD k 0 = z at *
        go_wp2
        go_round
        case rel => exact ⟨k + 1, by omega, by go_num, H.out⟩
        case measure => simp [intOf]; omega
    · obtain rfl : k = xs.length := by omega
      have HI := Lib.hid (idxI_none HA.out)
      go_wp2
      go_ret
      exact ⟨ret_int HI.out.symm, rfl⟩

set_option maxHeartbeats 1000000 in
theorem contains_any (v : Value) (xs : List Int) (x : Int) (w : World) (h : Ints w v xs) :
    Calls Try.prog 54 #[v, .int .i64 x] w fun e w' => e = .returned (.bool (hasB xs x)) ∧ w = w' := by
  have HI := Lib.hid (index_any v xs x w h)
  have HB := Lib.hid (hasB_idx xs x)
  clear h
  generalize idxI xs x = n at *
  go_enter Try.func54, Try.ntmps54
  go_wp2_with fail
  refine HI.out.mono ?_
  rintro e w' ⟨rfl, rfl⟩
  go_wp2
  go_ret
  exact ⟨ret_bool HB.out, rfl⟩
theorem containsN_any (v : Value) (l : List Nat) (x : Nat) (w : World) (h : Nats w v l) :
    Calls Try.prog 54 #[v, .int .i64 x] w fun e w' => e = .returned (.bool (l.contains x)) ∧ w = w' := by
  have := contains_any v (nats l) x w h
  rwa [hasB_nats] at this

set_option maxHeartbeats 1000000 in
theorem has_any (v : Value) (xs : List Int) (x : Int) (w : World) (h : Ints w v xs) :
    Calls Try.prog 62 #[v, .int .i64 x] w fun e w' => e = .returned (.bool (hasB xs x)) ∧ w = w' := by
  obtain ⟨ao, cap, rfl, h1, h2, hx⟩ := h.open
  have HX := Lib.hid hx
  clear h hx
  go_enter Try.func62, Try.ntmps62
  go_wp2
  go_loop [9] (fun i => ∃ k : Nat, k ≤ xs.length ∧ i = .int .i64 k ∧ ∀ j : Nat, j < k → xs.getD j 0 ≠ x) (fun i => xs.length - (intOf i).toNat)
  case atStart => exact ⟨0, Nat.zero_le _, rfl, fun j hj => absurd hj (by omega)⟩
  case round =>
    obtain ⟨k, hk, rfl, hall⟩ := hrel
    have HA := Lib.hid hall
    clear hall
    by_cases hlt : k < xs.length
    · obtain ⟨b, o, rfl, hck⟩ := HX.out k hlt
      by_cases heq : x = xs.getD k 0
      · have HI : Hid (hasB xs x = true) := Lib.hid (decide_eq_true (by rw [heq]; exact getD_mem hlt))
        have hb : (x == xs.getD k 0) = true := by simpa using heq
        clear heq
        generalize xs.getD k 0 = z at *
        go_wp2
        go_ret
        exact ⟨ret_bool HI.out.symm, rfl⟩
      · have H := Lib.hid (fun (j : Nat) (hj : j < k + 1) => if e : j = k then e ▸ (fun h => heq h.symm) else HA.out j (by omega))
        have hb : (x == xs.getD k 0) = false := by simpa using heq
        clear heq
        generalize xs.getD k 0 = z at *
        go_wp2
        go_round
        case rel => exact ⟨k + 1, by omega, by go_num, H.out⟩
        case measure => simp [intOf]; omega
    · obtain rfl : k = xs.length := by omega
      have HI : Hid (hasB xs x = false) := Lib.hid (decide_eq_false fun hm => by obtain ⟨j, hj, e⟩ := mem_getD hm; exact HA.out j hj e)
      go_wp2
      go_ret
      exact ⟨ret_bool HI.out.symm, rfl⟩
theorem hasN_any (v : Value) (l : List Nat) (x : Nat) (w : World) (h : Nats w v l) :
    Calls Try.prog 62 #[v, .int .i64 x] w fun e w' => e = .returned (.bool (l.contains x)) ∧ w = w' := by
  have := has_any v (nats l) x w h
  rwa [hasB_nats] at this
end Go.Proofs.Ytlalfjkenkmojaa
