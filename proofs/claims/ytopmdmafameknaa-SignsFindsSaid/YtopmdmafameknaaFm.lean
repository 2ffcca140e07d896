/- THE LAW SignsFinds -/
import Derived.Test.YtopmdmafameknaaFl
namespace Go.Proofs.Ytopmdmafameknaa
open Go.RowKit
def z4 (m : Nat) : Nat × Nat × Nat × Nat := if m = 1 then (0, 0, 0, 0) else if m = 3 then (0, 1, 1, 1) else (1, 1, 12, 13)

set_option maxRecDepth 20000 in
set_option maxHeartbeats 2000000 in
theorem finds_bad (n : Int) (h : n < 1 ∨ 100 < n) (w : World) : Calls Try.prog 9 #[.int .i64 n] w fun e w' => e = .returned (.bool true) ∧ Below w.heap.size w w' := by
  have hM : isM n = false := by unfold isM; simp; omega
  have HD := Lib.hid (fun W => Find_bad n hM W)
  have HF := Lib.hid (fun W => Four_bad n h W)
  have HAw := Lib.hid (fun W => awake_any W)
  have he : ∀ w, (binOp .neq 43 (qv 0 0 0 0) (qv 0 0 0 0)).run Try.prog w = .ok (.bool false) w := fun w => by rw [run_neq_four]; rfl
  have n1 : (n != 1) = true := by simp; omega
  have n3 : (n != 3) = true := by simp; omega
  have n5 : (n != 5) = true := by simp; omega
  unfold arr4 at HD
  unfold qv at he
  clear hM
  go_enter Try.func9, Try.ntmps9
  go_wp2_with fail
  refine (HD.out _).mono ?_
  rintro e w1 ⟨rfl, hb1⟩
  have HB1 := Lib.hid (hb1)
  clear hb1
  go_wp2_with fail
  refine (HF.out _).mono ?_
  rintro e w3 ⟨rfl, hb3⟩
  have hbk : Blk 43 w3 w1.heap.size #[.int .i64 0, .int .i64 0, .int .i64 0, .int .i64 0] := (Blk.new 43 w1 _).below hb3
  have s0 := hbk.cell 0
  have s1 := hbk.cell 1
  have s2 := hbk.cell 2
  have s3 := hbk.cell 3
  simp only [List.getElem?_toArray, List.getElem?_cons_zero, List.getElem?_cons_succ] at s0 s1 s2 s3
  have HB3 : Hid (Below w.heap.size w w3) := Lib.hid ((HB1.out.alloc HB1.out.size _).trans (hb3.mono (Nat.le_trans HB1.out.size (by simp))))
  clear hb3 hbk
  rcases h with h | h
  · go_wp2_with fail
    refine (HAw.out _).mono ?_
    rintro e w5 ⟨rfl, hb5⟩
    have HB5 : Hid (Below w.heap.size w w5) := Lib.hid (HB3.out.trans (hb5.mono HB3.out.size))
    clear hb5
    go_wp2_with fail
    go_ret
    exact ⟨rfl, HB5.out⟩
  · go_wp2_with fail
    refine (HAw.out _).mono ?_
    rintro e w5 ⟨rfl, hb5⟩
    have HB5 : Hid (Below w.heap.size w w5) := Lib.hid (HB3.out.trans (hb5.mono HB3.out.size))
    clear hb5
    go_wp2_with fail
    go_ret
    exact ⟨rfl, HB5.out⟩

set_option maxRecDepth 20000 in
set_option maxHeartbeats 2000000 in
theorem finds_no (n : Nat) (h1 : 1 ≤ n) (h2 : n ≤ 100) (hM : isM (n : Int) = false) (w : World) : Calls Try.prog 9 #[.int .i64 (n : Nat)] w fun e w' => e = .returned (.bool true) ∧ Below w.heap.size w w' := by
  have HFo := Lib.hid (fun W => Four_ok n h1 h2 W)
  have HRo := Lib.hid (fun W => RFour_any n h1 h2 W)
  have HF4 := Lib.hid (fourL_four h1 h2)
  have hFl := fourL_len h1 h2
  have HEq := Lib.hid (fun v u W hv hu => eqRows_any v u (fourL n) W hv hu)
  have HAw := Lib.hid (fun W => awake_any W)
  have HD := Lib.hid (fun W => Find_bad (n : Int) hM W)
  have he : ∀ w, (binOp .neq 43 (qv 0 0 0 0) (qv 0 0 0 0)).run Try.prog w = .ok (.bool false) w := fun w => by rw [run_neq_four]; rfl
  have n1 : ((n : Int) != 1) = true := by unfold isM at hM; simp at hM ⊢; omega
  have n3 : ((n : Int) != 3) = true := by unfold isM at hM; simp at hM ⊢; omega
  have n5 : ((n : Int) != 5) = true := by unfold isM at hM; simp at hM ⊢; omega
  unfold arr4 at HD
  unfold qv at he
  clear hM
  go_enter Try.func9, Try.ntmps9
  go_wp2_with fail
  refine (HD.out _).mono ?_
  rintro e w1 ⟨rfl, hb1⟩
  have HB1 := Lib.hid (hb1)
  clear hb1
  go_wp2_with fail
  refine (HFo.out _).mono ?_
  rintro e w3 ⟨v, rfl, hv, hb3⟩
  have hbk : Blk 43 w3 w1.heap.size #[.int .i64 0, .int .i64 0, .int .i64 0, .int .i64 0] := (Blk.new 43 w1 _).below hb3
  have s0 := hbk.cell 0
  have s1 := hbk.cell 1
  have s2 := hbk.cell 2
  have s3 := hbk.cell 3
  simp only [List.getElem?_toArray, List.getElem?_cons_zero, List.getElem?_cons_succ] at s0 s1 s2 s3
  have HB4 : Hid (Below w.heap.size w w3) := Lib.hid ((HB1.out.alloc HB1.out.size _).trans (hb3.mono (Nat.le_trans HB1.out.size (by simp))))
  have HV := Lib.hid (hv.read HF4.out (by omega))
  clear hv hb3 hbk
  go_wp2_with fail
  refine (HRo.out _).mono ?_
  rintro e w6 ⟨u, rfl, hu, hb6⟩
  have hu2 := hu.read HF4.out (by omega)
  have hv2 := (HV.out).below (hb6)
  have HB6 : Hid (Below w.heap.size w w6) := Lib.hid (HB4.out.trans (hb6.mono HB4.out.size))
  have HU := Lib.hid hu2
  have HV6 := Lib.hid hv2
  clear hu hb6 hu2 hv2 HV
  go_wp2_with fail
  refine (HEq.out _ _ _ HV6.out HU.out).mono ?_
  rintro e w7 ⟨rfl, hb7⟩
  have HB7 : Hid (Below w.heap.size w w7) := Lib.hid (HB6.out.trans (hb7.mono HB6.out.size))
  clear hb7
  go_wp2_with fail
  refine (HAw.out _).mono ?_
  rintro e w8 ⟨rfl, hb8⟩
  have HB8 : Hid (Below w.heap.size w w8) := Lib.hid (HB7.out.trans (hb8.mono HB7.out.size))
  clear hb8
  go_wp2_with fail
  go_ret
  exact ⟨rfl, HB8.out⟩

set_option maxRecDepth 20000 in
set_option maxHeartbeats 2000000 in
theorem finds_m (n a b c d : Nat) (h1 : 1 ≤ n) (hn : n = 1 ∨ n = 3 ∨ n = 5) (hD : ∀ W : World, Calls Try.prog 48 #[.int .i64 (n : Nat)] W fun e w' => e = .returned (.tuple #[arr4 a b c d, .int .i64 0]) ∧ Below W.heap.size W w') (hR : ∀ W : World, Calls Try.prog 50 #[.int .i64 (n : Nat)] W fun e w' => e = .returned (.tuple #[arr4 a b c d, .int .i64 0]) ∧ Below W.heap.size W w') (w : World) : Calls Try.prog 9 #[.int .i64 (n : Nat)] w fun e w' => e = .returned (.bool true) ∧ Below w.heap.size w w' := by
  have h2 : n ≤ 100 := by omega
  have HFo := Lib.hid (fun W => Four_ok n h1 h2 W)
  have HRo := Lib.hid (fun W => RFour_any n h1 h2 W)
  have HF4 := Lib.hid (fourL_four h1 h2)
  have hFl := fourL_len h1 h2
  have HEq := Lib.hid (fun v u W hv hu => eqRows_any v u (fourL n) W hv hu)
  have HAw := Lib.hid (fun W => awake_any W)
  have HD := Lib.hid hD
  have HR := Lib.hid hR
  have he : ∀ w, (binOp .neq 43 (qv a b c d) (qv a b c d)).run Try.prog w = .ok (.bool false) w := fun w => by rw [run_neq_four, decide_eq_true rfl]; rfl
  have hguard : ((n:Int) != 1) = false ∨ (((n:Int) != 1) = true ∧ ((n:Int) != 3) = false) ∨ (((n:Int) != 1) = true ∧ ((n:Int) != 3) = true ∧ ((n:Int) != 5) = false) := by
    rcases hn with rfl | rfl | rfl
    · left; rfl
    · right; left; exact ⟨rfl, rfl⟩
    · right; right; exact ⟨rfl, rfl, rfl⟩
  unfold arr4 at HD HR
  unfold qv at he
  clear hn hD hR
  rcases hguard with g | ⟨g, g2⟩ | ⟨g, g2, g3⟩
  all_goals
    go_enter Try.func9, Try.ntmps9
    go_wp2_with fail
    refine (HD.out _).mono ?_
    rintro e w1 ⟨rfl, hb1⟩
    have HB1 := Lib.hid (hb1)
    clear hb1
    go_wp2_with fail
    refine (HFo.out _).mono ?_
    rintro e w3 ⟨v, rfl, hv, hb3⟩
    have hbk : Blk 43 w3 w1.heap.size #[.int .i64 (a : Nat), .int .i64 (b : Nat), .int .i64 (c : Nat), .int .i64 (d : Nat)] := (Blk.new 43 w1 _).below hb3
    have s0 := hbk.cell 0
    have s1 := hbk.cell 1
    have s2 := hbk.cell 2
    have s3 := hbk.cell 3
    simp only [List.getElem?_toArray, List.getElem?_cons_zero, List.getElem?_cons_succ] at s0 s1 s2 s3
    have HB3 : Hid (Below w.heap.size w w3) := Lib.hid ((HB1.out.alloc HB1.out.size _).trans (hb3.mono (Nat.le_trans HB1.out.size (by simp))))
    have HV3 := Lib.hid (hv.read HF4.out (by omega))
    have HK := Lib.hid hbk
    clear hv hb3 hbk s0 s1 s2 s3
    go_wp2_with fail
    refine (HR.out _).mono ?_
    rintro e w4 ⟨rfl, hb4⟩
    have hlt := HK.out.lt
    have hk5 : Blk 43 (w4.alloc (.cells #[.int .i64 (a : Nat), .int .i64 (b : Nat), .int .i64 (c : Nat), .int .i64 (d : Nat)] 43)) w1.heap.size #[.int .i64 (a : Nat), .int .i64 (b : Nat), .int .i64 (c : Nat), .int .i64 (d : Nat)] := (HK.out.below hb4).alloc _
    have s0 := hk5.cell 0
    have s1 := hk5.cell 1
    have s2 := hk5.cell 2
    have s3 := hk5.cell 3
    have hk6 := Blk.new 43 w4 #[.int .i64 (a : Nat), .int .i64 (b : Nat), .int .i64 (c : Nat), .int .i64 (d : Nat)]
    have y0 := hk6.cell 0
    have y1 := hk6.cell 1
    have y2 := hk6.cell 2
    have y3 := hk6.cell 3
    simp only [List.getElem?_toArray, List.getElem?_cons_zero, List.getElem?_cons_succ] at s0 s1 s2 s3 y0 y1 y2 y3
    have HB4a := HB3.out.trans (hb4.mono HB3.out.size)
    have HB4 : Hid (Below w.heap.size w (w4.alloc (.cells #[.int .i64 (a : Nat), .int .i64 (b : Nat), .int .i64 (c : Nat), .int .i64 (d : Nat)] 43))) := Lib.hid (HB4a.alloc HB4a.size _)
    have HV : Hid (RowsC (w4.alloc (.cells #[.int .i64 (a : Nat), .int .i64 (b : Nat), .int .i64 (c : Nat), .int .i64 (d : Nat)] 43)) v (fourL n)) := Lib.hid ((HV3.out.below hb4).below ((Below.refl _ _).alloc (Nat.le_refl _) _))
    clear hb4 hk5 hk6 HK HB4a HV3
    go_wp2_with fail
    refine (HRo.out _).mono ?_
    rintro e w6 ⟨u, rfl, hu, hb6⟩
    have hu2 := hu.read HF4.out (by omega)
    have hv2 := (HV.out).below (hb6)
    have HB6 : Hid (Below w.heap.size w w6) := Lib.hid (HB4.out.trans (hb6.mono HB4.out.size))
    have HU := Lib.hid hu2
    have HV6 := Lib.hid hv2
    clear hu hb6 hu2 hv2 HV
    go_wp2_with fail
    refine (HEq.out _ _ _ HV6.out HU.out).mono ?_
    rintro e w7 ⟨rfl, hb7⟩
    have HB7 : Hid (Below w.heap.size w w7) := Lib.hid (HB6.out.trans (hb7.mono HB6.out.size))
    clear hb7
    go_wp2_with fail
    refine (HAw.out _).mono ?_
    rintro e w8 ⟨rfl, hb8⟩
    have HB8 : Hid (Below w.heap.size w w8) := Lib.hid (HB7.out.trans (hb8.mono HB7.out.size))
    clear hb8
    go_wp2_with fail
    go_ret
    exact ⟨rfl, HB8.out⟩
theorem signsFinds_law (n : Int) (w : World) : Calls Try.prog 9 #[.int .i64 n] w fun e w' => e = .returned (.bool true) ∧ Below w.heap.size w w' := by
  by_cases h : n < 1 ∨ 100 < n
  · exact finds_bad n h w
  · obtain ⟨m, rfl⟩ := Int.eq_ofNat_of_zero_le (show 0 ≤ n by omega)
    by_cases h1 : m = 1
    · subst h1; exact finds_m 1 0 0 0 0 (by omega) (by omega) (fun W => Find_ok 1 0 0 0 0 (by omega) (by omega) rfl find_chk.1 W) RFind_1 w
    · by_cases h3 : m = 3
      · subst h3; exact finds_m 3 0 1 1 1 (by omega) (by omega) (fun W => Find_ok 3 0 1 1 1 (by omega) (by omega) rfl find_chk.2.1 W) RFind_3 w
      · by_cases h5 : m = 5
        · subst h5; exact finds_m 5 1 1 12 13 (by omega) (by omega) (fun W => Find_ok 5 1 1 12 13 (by omega) (by omega) rfl find_chk.2.2 W) RFind_5 w
        · exact finds_no m (by omega) (by omega) (by unfold isM; simp; omega) w
end Go.Proofs.Ytopmdmafameknaa
