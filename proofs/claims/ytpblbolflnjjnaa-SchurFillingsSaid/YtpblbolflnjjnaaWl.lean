/- Standard -/
import Derived.Test.YtpblbolflnjjnaaWk
namespace Go.Proofs.Ytpblbolflnjjnaa
open Go.RowKit

def ones (n : Nat) : List Int := List.replicate n 1

theorem isum_ones (n : Nat) : isum (ones n) = n := by
  induction n with
  | zero => rfl
  | succ n ih =>
    simp only [ones, isum, List.replicate_succ, List.sum_cons] at *
    omega

theorem ones_content {n : Nat} (h : n ≤ 8) : coB (ones n) = true := by
  refine decide_eq_true ⟨by simpa [ones] using h, fun k hk => ?_, by rw [isum_ones]; omega⟩
  have : k < n := by simpa [ones] using hk
  simp [ones, this]

/-- How many fillings have each number once. -/
def stdS (l : List Int) : Int := (fillS l (ones (isum l).toNat)).length

def StdPost (l : List Int) (w : World) (e : Ending) (w' : World) : Prop :=
  e = .returned (.tuple #[.int .i64 (if shB l then stdS l else 0), .int .i64 (if shB l then 0 else 2)]) ∧ Below w.heap.size w w'

theorem mid_set (n k : Nat) (hk : k < n) : (ints (List.replicate k 1 ++ List.replicate (n - k) 0)).set k (.int .i64 1) = ints (List.replicate (k + 1) 1 ++ List.replicate (n - (k + 1)) 0) := by
  obtain ⟨m, hm⟩ : ∃ m, n - k = m + 1 := ⟨n - k - 1, by omega⟩
  rw [hm, show n - (k + 1) = m by omega]
  simp only [ints]
  rw [← List.map_set, List.set_append_right _ _ (by simp), List.length_replicate, Nat.sub_self, List.replicate_succ, List.set_cons_zero, List.replicate_succ']
  simp

set_option maxHeartbeats 1000000 in
theorem standard_any (w : World) (vl : Value) (l : List Int) (hvl : Ints w vl l) : Calls Try.prog 53 #[vl] w (StdPost l w) := by
  by_cases hsh : shB l = true
  · have hs : Shape l := of_decide_eq_true hsh
    have hb8 := hs.2.2
    have hbx : ∀ x ∈ l, 0 ≤ x ∧ x ≤ 8 := fun x hx => ⟨by have := hs.bd x hx; omega, (hs.bd x hx).2⟩
    have hge := (isum_bd l hbx).1
    have hboxes := boxes_any vl l w hvl hbx
    obtain ⟨n, hn⟩ := Int.eq_ofNat_of_zero_le hge
    rw [hn] at hboxes hb8
    have HN := hidIt hn
    have HBx := hidIt hboxes
    have hmk := run_make22 n n (Nat.le_refl _) (by omega)
    clear hge hn hboxes hbx hs
    go_enter Try.func53, Try.ntmps53
    go_wp2_with (first
      | (go_at_call 72; refine (isShape_any _ l _ hvl).mono ?_; rintro e w' ⟨rfl, rfl⟩)
      | (go_at_call 77; refine HBx.out.mono ?_; rintro e w' ⟨rfl, rfl⟩))
    clear HBx hmk
    go_loopw [14] (fun s14 wr => ∃ k : Nat, k ≤ n ∧ s14 = .int .i64 k ∧ wr.heap[w.heap.size]? = some (.cells (ints (List.replicate k 1 ++ List.replicate (n - k) 0)).toArray 3 (0, 0)) ∧ Below w.heap.size w wr) (fun s14 _ => n - (intOf s14).toNat)
    case atStart =>
      refine ⟨0, Nat.zero_le _, rfl, ?_, (Below.refl _ _).alloc (Nat.le_refl _) _⟩
      show (w.heap.push _)[_]? = _
      simp
    case round =>
      obtain ⟨k, hk, rfl, hA, hb⟩ := hrel
      by_cases hlt : k < n
      · have cA : wr.cell? ⟨w.heap.size, k, none⟩ = some (.int .i64 0) := by
          have e : (ints (List.replicate k 1 ++ List.replicate (n - k) 0))[k]? = some (.int .i64 0) := by
            simp only [ints, List.map_append, List.map_replicate]
            rw [List.getElem?_append_right (by simp), List.length_replicate, List.getElem?_replicate, if_pos (by omega)]
          simp [World.cell?, hA, e]
        have fA : wr.frozen? ⟨w.heap.size, k, none⟩ = false := by simp [World.frozen?, hA]
        have HR : Hid ((wr.setCell ⟨w.heap.size, k, none⟩ (.int .i64 1)).heap[w.heap.size]? = some (.cells (ints (List.replicate (k + 1) 1 ++ List.replicate (n - (k + 1)) 0)).toArray 3 (0, 0)) ∧ Below w.heap.size w (wr.setCell ⟨w.heap.size, k, none⟩ (.int .i64 1))) := by
          refine ⟨?_, hb.setCell (Nat.le_refl _) _⟩
          rw [heap_set_at hA, ← mid_set n k hlt]
          simp
        clear hA hb
        go_wp2
        go_roundw
        case rel => exact ⟨k + 1, by omega, by go_num, HR.out⟩
        case measure => simp [intOf]; omega
      · obtain rfl : k = n := by omega
        have hm : Ints wr (.slice (some ⟨w.heap.size, 0, none⟩) k k) (ones k) := by
          refine ⟨⟨_, k, by simp [ints, ones], by simp [ints, ones], by simp [ints, ones]; omega, by unfold maxLen; omega, .inr ⟨w.heap.size, 0, rfl, lt_of_block hA, fun j x hx => ?_⟩⟩, ?_⟩
          · simp only [World.cell?, hA, Nat.zero_add]
            simpa [ones] using hx
          · intro x hx
            have := List.eq_of_mem_replicate hx
            subst this
            exact ⟨by omega, by omega⟩
        have hK := kostka_any wr vl _ l (ones k) (hvl.below hb (Nat.le_refl _)) hm
        have HK := hidIt hK
        have HB := hidIt hb
        clear hK hm hA hb
        go_wp2_with fail
        refine HK.out.mono ?_
        rintro e w2 ⟨rfl, hb2⟩
        have HC : Hid ((shB l && coB (ones k)) = true) := by rw [hsh, ones_content (by omega)]; rfl
        obtain ⟨x, hx⟩ : ∃ x, x = (if shB l && coB (ones k) then ((fillS l (ones k)).length : Int) else 0) := ⟨_, rfl⟩
        obtain ⟨y, hy⟩ : ∃ y, y = (if shB l && coB (ones k) then (0 : Int) else 2) := ⟨_, rfl⟩
        rw [← hx, ← hy]
        have HX := hidIt hx
        have HY := hidIt hy
        have HSH := hidIt hsh
        clear hx hy HK hsh
        go_wp2
        go_ret2
        refine ⟨?_, HB.out.trans (hb2.mono HB.out.size)⟩
        rw [if_pos HSH.out, if_pos HSH.out, stdS, HN.out, Int.toNat_natCast]
        rw [if_pos HC.out] at HX HY
        rw [← HX.out, ← HY.out]
        rfl
  · have hsh' : shB l = false := by simpa using hsh
    have HP : Hid (∀ w', w = w' → StdPost l w (.returned (.tuple #[.int .i64 0, .int .i64 2])) w') := fun w' h => by
      subst h
      refine ⟨?_, Below.refl _ _⟩
      rw [if_neg hsh, if_neg hsh]
    clear hsh
    go_enter Try.func53, Try.ntmps53
    go_wp2_with (go_at_call 72; refine (isShape_any _ l _ hvl).mono ?_; rintro e w' ⟨rfl, rfl⟩)
    go_ret2
    exact HP.out _ rfl
end Go.Proofs.Ytpblbolflnjjnaa
