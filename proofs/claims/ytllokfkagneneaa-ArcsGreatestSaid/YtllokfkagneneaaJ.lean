/- planes: Index and Contains of ints, differ -/
import Derived.Test.YtllokfkagneneaaA
namespace Go.Proofs.Ytllokfkagneneaa
open Go.RowKit

def idxI (xs : List Int) (x : Int) : Int := (xs.findIdx? (· == x)).elim (-1) fun (i : Nat) => (i : Int)
theorem idxI_some {xs : List Int} {x : Int} {k : Nat} (hk : k < xs.length) (h : ∀ j : Nat, j < k → xs.getD j 0 ≠ x) (h1 : xs.getD k 0 = x) : idxI xs x = k := by
  have : xs.findIdx? (· == x) = some k := by
    rw [List.findIdx?_eq_some_iff_getElem]
    refine ⟨hk, ?_, fun j hj => ?_⟩
    · have := h1; simp [hk] at this; simp [this]
    · have := h j hj; simp [show j < xs.length by omega] at this; simpa using this
  unfold idxI; rw [this]; rfl
theorem idxI_none {xs : List Int} {x : Int} (h : ∀ j : Nat, j < xs.length → xs.getD j 0 ≠ x) : idxI xs x = -1 := by
  have : xs.findIdx? (· == x) = none := by
    rw [List.findIdx?_eq_none_iff]
    intro u hu
    obtain ⟨j, hj, rfl⟩ := mem_getD hu
    simpa using h j hj
  unfold idxI; rw [this]; rfl
def hasB (xs : List Int) (x : Int) : Bool := decide (x ∈ xs)
theorem hasB_idx (xs : List Int) (x : Int) : decide (idxI xs x ≥ 0) = hasB xs x := by
  unfold hasB idxI
  cases h : xs.findIdx? (· == x) with
  | none =>
    have h2 : x ∉ xs := by
      rw [List.findIdx?_eq_none_iff] at h
      intro hx
      have := h x hx
      simp at this
    simp [h2]
  | some k =>
    have h2 : x ∈ xs := by
      rw [List.findIdx?_eq_some_iff_getElem] at h
      obtain ⟨hk, e, _⟩ := h
      have e : xs[k] = x := by simpa using e
      rw [← e]; exact List.getElem_mem hk
    simp [h2]

set_option maxHeartbeats 1000000 in
theorem index_any (v : Value) (xs : List Int) (x : Int) (w : World) (h : Ints w v xs) :
    Calls Try.prog 86 #[v, .int .i64 x] w fun e w' => e = .returned (.int .i64 (idxI xs x)) ∧ w = w' := by
  obtain ⟨ao, cap, rfl, h1, h2, hx⟩ := h.open
  have HX := Lib.hid hx
  clear h hx
  go_enter Try.func86, Try.ntmps86
  go_wp2
  go_loop [8] (fun i => ∃ k : Nat, k ≤ xs.length ∧ i = .int .i64 k ∧ ∀ j : Nat, j < k → xs.getD j 0 ≠ x) (fun i => xs.length - (intOf i).toNat)
  case atStart => exact ⟨0, Nat.zero_le _, rfl, fun j hj => absurd hj (by omega)⟩
  case round =>
    obtain ⟨k, hk, rfl, hall⟩ := hrel
    have HA := Lib.hid hall
    clear hall
    by_cases hlt : k < xs.length
    · obtain ⟨b, o, rfl, hck⟩ := HX.out k hlt
      by_cases heq : x = xs.getD k 0
      · have HI := Lib.hid (idxI_some hlt HA.out heq.symm)
        have hb : (x == xs.getD k 0) = true := by simpa using heq
        clear heq
        generalize xs.getD k 0 = z at *
        go_wp2
        go_ret
        exact ⟨ret_int HI.out.symm, rfl⟩
      · have H := Lib.hid (fun (j : Nat) (hj : j < k + 1) => if e : j = k then e ▸ (fun h => heq h.symm) else HA.out j (by omega))
        have hb : (x == xs.getD k 0) = false := by simpa using heq
        clear heq
        generalize xs.getD k 0 = z at *
        go_wp2
        go_round
        case rel => exact ⟨k + 1, by omega, by go_num, H.out⟩
        case measure => simp [intOf]; omega
    · obtain rfl : k = xs.length := by omega
      have HI := Lib.hid (idxI_none HA.out)
      go_wp2
      go_ret
      exact ⟨ret_int HI.out.symm, rfl⟩

set_option maxHeartbeats 1000000 in
theorem contains_any (v : Value) (xs : List Int) (x : Int) (w : World) (h : Ints w v xs) :
    Calls Try.prog 44 #[v, .int .i64 x] w fun e w' => e = .returned (.bool (hasB xs x)) ∧ w = w' := by
  have HI := Lib.hid (index_any v xs x w h)
  have HB := Lib.hid (hasB_idx xs x)
  clear h
  generalize idxI xs x = n at *
  go_enter Try.func44, Try.ntmps44
  go_wp2_with fail
  refine HI.out.mono ?_
  rintro e w' ⟨rfl, rfl⟩
  go_wp2
  go_ret
  exact ⟨ret_bool HB.out, rfl⟩

theorem Ints.take {w : World} {ao : Option Addr} {n cap : Nat} {xs : List Int} (h : Ints w (.slice ao n cap) xs) {k : Nat} (hk : k ≤ n) : Ints w (.slice ao k cap) (xs.take k) := by
  obtain ⟨⟨ao', cap', hv, h1, h2, h3, h4⟩, hb⟩ := h
  simp only [Value.slice.injEq] at hv
  obtain ⟨rfl, hn, rfl⟩ := hv
  rw [ints_length] at *
  have hl : (xs.take k).length = k := by rw [List.length_take]; omega
  refine ⟨⟨ao, cap, by rw [ints_length, hl], by rw [ints_length]; omega, by rw [ints_length]; omega, h3, ?_⟩, fun x hx => hb x (List.mem_of_mem_take hx)⟩
  rcases h4 with h4 | ⟨b, o, rfl, hlt, hc⟩
  · left
    have : xs = [] := by simpa [ints] using h4
    subst this; simp [ints]
  · refine .inr ⟨b, o, rfl, hlt, fun j x hx => hc j x ?_⟩
    have hj := (List.getElem?_eq_some_iff.1 hx).1
    rw [ints_length] at hj
    simp only [ints, List.map_take] at hx ⊢
    rw [List.getElem?_take_of_lt (by omega)] at hx
    exact hx

def difB (xs : List Int) : Bool := decide xs.Nodup
theorem nodup_take_succ {xs : List Int} {k : Nat} (hk : k < xs.length) (h : (xs.take k).Nodup) (h2 : xs.getD k 0 ∉ xs.take k) : (xs.take (k+1)).Nodup := by
  rw [take_snoc xs k hk, List.nodup_append]
  refine ⟨h, by simp, fun a ha b hb e => ?_⟩
  simp at hb; subst hb; subst e; exact h2 (by simpa using ha)
theorem difB_false {xs : List Int} {k : Nat} (hk : k < xs.length) (h2 : xs.getD k 0 ∈ xs.take k) : difB xs = false := by
  refine decide_eq_false fun h => ?_
  have : (xs.take (k+1)).Nodup := h.sublist (List.take_sublist _ _)
  rw [take_snoc xs k hk, List.nodup_append] at this
  exact this.2.2 _ h2 _ (by simp) rfl

set_option maxHeartbeats 1000000 in
theorem differ_any (v : Value) (xs : List Int) (w : World) (h : Ints w v xs) :
    Calls Try.prog 71 #[v] w fun e w' => e = .returned (.bool (difB xs)) ∧ w = w' := by
  have H0 := Lib.hid h
  obtain ⟨ao, cap, rfl, h1, h2, hx⟩ := h.open
  have HX := Lib.hid hx
  clear h hx
  go_enter Try.func71, Try.ntmps71
  go_wp2
  go_loop [7] (fun i => ∃ k : Nat, k ≤ xs.length ∧ i = .int .i64 k ∧ (xs.take k).Nodup) (fun i => xs.length - (intOf i).toNat)
  case atStart => exact ⟨0, Nat.zero_le _, rfl, by simp⟩
  case round =>
    obtain ⟨k, hk, rfl, hall⟩ := hrel
    have HA := Lib.hid hall
    clear hall
    by_cases hlt : k < xs.length
    · obtain ⟨b, o, rfl, hck⟩ := HX.out k hlt
      have HC := Lib.hid (contains_any _ (xs.take k) (xs.getD k 0) w (H0.out.take (Nat.le_of_lt hlt)))
      cases hh : hasB (xs.take k) (xs.getD k 0) with
      | true =>
        have HI := Lib.hid (difB_false hlt (of_decide_eq_true hh))
        rw [hh] at HC
        clear hh
        generalize xs.getD k 0 = z at *
        go_wp2_with fail
        refine HC.out.mono ?_
        rintro e w' ⟨rfl, rfl⟩
        go_wp2
        go_ret
        exact ⟨ret_bool HI.out.symm, rfl⟩
      | false =>
        have HI := Lib.hid (nodup_take_succ hlt HA.out (of_decide_eq_false hh))
        rw [hh] at HC
        clear hh
        generalize xs.getD k 0 = z at *
        go_wp2_with fail
        refine HC.out.mono ?_
        rintro e w' ⟨rfl, rfl⟩
        go_wp2
        go_round
        case rel => exact ⟨k + 1, by omega, by go_num, HI.out⟩
        case measure => simp [intOf]; omega
    · obtain rfl : k = xs.length := by omega
      have HI : Hid (difB xs = true) := decide_eq_true (by have := HA.out; rwa [List.take_length] at this)
      go_wp2
      go_ret
      exact ⟨ret_bool HI.out.symm, rfl⟩
end Go.Proofs.Ytllokfkagneneaa
