/- Four -/
import Derived.Test.YtopmdmafameknaaFb
namespace Go.Proofs.Ytopmdmafameknaa
open Go.RowKit

def RowsF (w : World) (v : Value) (L : List (List Nat)) : Prop := ∃ B1, w.ownsRow B1 43 4 v L.length (flat4 L)
set_option maxHeartbeats 400000 in
theorem Four_bad (n : Int) (h : n < 1 ∨ 100 < n) (w : World) : Calls Try.prog 49 #[.int .i64 n] w fun e w' => e = .returned (.tuple #[.slice none 0 0, .int .i64 2]) ∧ Below w.heap.size w w' := by
  by_cases h1 : n < 1
  · go_enter Try.func49, Try.ntmps49
    go_wp2_with fail
    exact bodyPost_ret (results_tmp2 rfl _ _ _) rfl ⟨rfl, Below.refl _ _⟩
  · have h2 : 100 < n := by omega
    go_enter Try.func49, Try.ntmps49
    go_wp2_with fail
    exact bodyPost_ret (results_tmp2 rfl _ _ _) rfl ⟨rfl, Below.refl _ _⟩
theorem fst_new (w : World) : FSt (((w.alloc (.cells #[.slice none 0 0] 51)).alloc (.cells #[.int .i64 0, .int .i64 0, .int .i64 0, .int .i64 0] 43)).alloc (.cells #[.func (.func 88) #[] #[.pointer (some ⟨w.heap.size, 0, none⟩), .pointer (some ⟨w.heap.size + 1, 0, none⟩), .pointer (some ⟨w.heap.size + 2, 0, none⟩)]] 77))
    w.heap.size (w.heap.size + 1) (w.heap.size + 2) (w.heap.size + 3) (.slice none 0 0) [] (fun _ => 0) := by
  have h1 := ((Blk.new 51 w #[.slice none 0 0]).alloc (.cells #[.int .i64 0, .int .i64 0, .int .i64 0, .int .i64 0] 43)).alloc (.cells #[.func (.func 88) #[] #[.pointer (some ⟨w.heap.size, 0, none⟩), .pointer (some ⟨w.heap.size + 1, 0, none⟩), .pointer (some ⟨w.heap.size + 2, 0, none⟩)]] 77)
  have h2 := (Blk.new 43 (w.alloc (.cells #[.slice none 0 0] 51)) #[.int .i64 0, .int .i64 0, .int .i64 0, .int .i64 0]).alloc (.cells #[.func (.func 88) #[] #[.pointer (some ⟨w.heap.size, 0, none⟩), .pointer (some ⟨w.heap.size + 1, 0, none⟩), .pointer (some ⟨w.heap.size + 2, 0, none⟩)]] 77)
  have h3 := Blk.new 77 ((w.alloc (.cells #[.slice none 0 0] 51)).alloc (.cells #[.int .i64 0, .int .i64 0, .int .i64 0, .int .i64 0] 43)) #[.func (.func 88) #[] #[.pointer (some ⟨w.heap.size, 0, none⟩), .pointer (some ⟨w.heap.size + 1, 0, none⟩), .pointer (some ⟨w.heap.size + 2, 0, none⟩)]]
  rw [World.size_alloc] at h2
  rw [World.size_alloc, World.size_alloc] at h3
  exact ⟨h1, h2, h3, World.ownsRow_nil _ _ _ _, ⟨by omega, by omega, by omega⟩, ⟨by omega, by omega, by omega⟩⟩

theorem fourL_len {n : Nat} (h1 : 1 ≤ n) (h2 : n ≤ 100) : (fourL n).length ≤ 20 := by
  have h := List.all_eq_true.1 found_chk n (List.mem_range.2 (by omega))
  simp only [Bool.or_eq_true, Bool.and_eq_true, beq_iff_eq, decide_eq_true_eq] at h
  rcases h with h | h
  · omega
  · exact h.1.2
set_option maxHeartbeats 1000000 in
theorem Four_ok (n : Nat) (h1 : 1 ≤ n) (h2 : n ≤ 100) (w : World) : Calls Try.prog 49 #[.int .i64 (n : Nat)] w fun e w' => ∃ v, e = .returned (.tuple #[v, .int .i64 0]) ∧ RowsF w' v (fourL n) ∧ Below w.heap.size w w' := by
  have HP : Hid (∀ W, FSt W w.heap.size (w.heap.size + 1) (w.heap.size + 2) (w.heap.size + 3) (.slice none 0 0) [] (fun _ => 0) → w.heap.size + 3 ≤ W.heap.size → Calls Try.prog 88 #[.int .i64 0, .int .i64 1, .int .i64 (4 * (n : Int)), .pointer (some ⟨w.heap.size, 0, none⟩), .pointer (some ⟨w.heap.size + 1, 0, none⟩), .pointer (some ⟨w.heap.size + 2, 0, none⟩)] W fun e w' => e = .returned (.tuple #[]) ∧ ∃ v' q', FSt w' w.heap.size (w.heap.size + 1) (w.heap.size + 2) (w.heap.size + 3) v' (fourL n) q' ∧ Below w.heap.size W w') := Lib.hid (fun W hW hs => by
    have h9 := place_any w.heap.size (w.heap.size + 1) (w.heap.size + 2) (w.heap.size + 3) w.heap.size ⟨by omega, by omega, by omega⟩ 4 [] 1 (4 * n) (.slice none 0 0) [] (fun _ => 0) W rfl (by omega) (by omega) (fun e => by omega) (by
      have := fourL_len h1 h2
      show (fourL n).length ≤ 1000
      omega) (fun i hi => by simp at hi) hW hs
    have e : ((4 * n : Nat) : Int) = 4 * (n : Int) := by omega
    rw [e] at h9
    refine h9.mono fun e w' hh => ?_
    obtain ⟨he, v', q', a, _, b⟩ := hh
    exact ⟨he, v', q', a, b⟩)
  have HS := Lib.hid (fst_new w)
  have HB : Hid (Below w.heap.size w (((w.alloc (.cells #[.slice none 0 0] 51)).alloc (.cells #[.int .i64 0, .int .i64 0, .int .i64 0, .int .i64 0] 43)).alloc (.cells #[.func (.func 88) #[] #[.pointer (some ⟨w.heap.size, 0, none⟩), .pointer (some ⟨w.heap.size + 1, 0, none⟩), .pointer (some ⟨w.heap.size + 2, 0, none⟩)]] 77))) :=
    Lib.hid ((((Below.refl _ _).alloc (Nat.le_refl _) _).alloc (by simp) _).alloc (by simp; omega) _)
  go_enter Try.func49, Try.ntmps49
  go_wp2_with fail
  refine (HP.out _ HS.out (by simp)).mono ?_
  rintro e w1 ⟨rfl, v', q', hS, hb⟩
  have ca : w1.cell? ⟨w.heap.size, 0, none⟩ = some v' := hS.ba.cell 0
  have HO : Hid (RowsF w1 v' (fourL n)) := Lib.hid ⟨_, hS.own⟩
  have HB1 := Lib.hid (HB.out.trans hb)
  clear hS hb HP HS HB
  go_wp2_with fail
  exact bodyPost_ret (results_tmp2 rfl _ _ _) rfl ⟨_, rfl, HO.out, HB1.out⟩
end Go.Proofs.Ytopmdmafameknaa
