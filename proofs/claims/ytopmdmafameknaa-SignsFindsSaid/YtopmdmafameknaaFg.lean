/- Find -/
import Derived.Test.YtopmdmafameknaaFf
namespace Go.Proofs.Ytopmdmafameknaa
open Go.RowKit
theorem find_chk : fndL 1 4 [] = some [0, 0, 0, 0] ∧ fndL 3 4 [] = some [0, 1, 1, 1] ∧ fndL 5 4 [] = some [1, 1, 12, 13] := by decide +kernel
set_option maxHeartbeats 400000 in
theorem Find_bad (m : Int) (h : isM m = false) (w : World) : Calls Try.prog 48 #[.int .i64 m] w fun e w' => e = .returned (.tuple #[arr4 0 0 0 0, .int .i64 2]) ∧ Below w.heap.size w w' := by
  have HL := Lib.hid (fun W => length_any m W)
  rw [h] at HL
  clear h
  go_enter Try.func48, Try.ntmps48
  go_wp2_with fail
  refine (HL.out _).mono ?_
  rintro e w1 ⟨rfl, rfl⟩
  go_wp2_with fail
  have hB : Below w.heap.size w ((w.alloc (.cells #[.int .i64 m] 3)).alloc (.cells #[.int .i64 0, .int .i64 0, .int .i64 0, .int .i64 0] 43)) := ((Below.refl _ _).alloc (Nat.le_refl _) _).alloc (by simp) _
  have hb := Blk.new 43 (w.alloc (.cells #[.int .i64 m] 3)) #[.int .i64 0, .int .i64 0, .int .i64 0, .int .i64 0]
  rw [World.size_alloc] at hb
  have e0 := hb.cell 0
  have e1 := hb.cell 1
  have e2 := hb.cell 2
  have e3 := hb.cell 3
  refine bodyPost_ret (v := .tuple #[arr4 0 0 0 0, .int .i64 2]) ?_ rfl ⟨rfl, hB⟩
  simp [results, Try.f48, go_sem, e0, e1, e2, e3]
theorem gst_new (w : World) (m : Nat) : GSt ((((w.alloc (.cells #[.int .i64 (m : Nat)] 3)).alloc (.cells #[.int .i64 0, .int .i64 0, .int .i64 0, .int .i64 0] 43)).alloc (.cells #[.int .i64 0, .int .i64 0, .int .i64 0, .int .i64 0] 43)).alloc (.cells #[.func (.func 86) #[] #[.pointer (some ⟨w.heap.size, 0, none⟩), .pointer (some ⟨w.heap.size + 2, 0, none⟩), .pointer (some ⟨w.heap.size + 3, 0, none⟩)]] 56))
    m w.heap.size (w.heap.size + 2) (w.heap.size + 3) (fun _ => 0) := by
  obtain ⟨o, ho⟩ : ∃ o, o = Obj.cells #[.func (.func 86) #[] #[.pointer (some ⟨w.heap.size, 0, none⟩), .pointer (some ⟨w.heap.size + 2, 0, none⟩), .pointer (some ⟨w.heap.size + 3, 0, none⟩)]] 56 := ⟨_, rfl⟩
  rw [← ho]
  have h1 := (((Blk.new 3 w #[.int .i64 (m : Nat)]).alloc (.cells #[.int .i64 0, .int .i64 0, .int .i64 0, .int .i64 0] 43)).alloc (.cells #[.int .i64 0, .int .i64 0, .int .i64 0, .int .i64 0] 43)).alloc o
  have h2 := (Blk.new 43 ((w.alloc (.cells #[.int .i64 (m : Nat)] 3)).alloc (.cells #[.int .i64 0, .int .i64 0, .int .i64 0, .int .i64 0] 43)) #[.int .i64 0, .int .i64 0, .int .i64 0, .int .i64 0]).alloc o
  have h3 : Blk 56 ((((w.alloc (.cells #[.int .i64 (m : Nat)] 3)).alloc (.cells #[.int .i64 0, .int .i64 0, .int .i64 0, .int .i64 0] 43)).alloc (.cells #[.int .i64 0, .int .i64 0, .int .i64 0, .int .i64 0] 43)).alloc o) (((w.alloc (.cells #[.int .i64 (m : Nat)] 3)).alloc (.cells #[.int .i64 0, .int .i64 0, .int .i64 0, .int .i64 0] 43)).alloc (.cells #[.int .i64 0, .int .i64 0, .int .i64 0, .int .i64 0] 43)).heap.size #[.func (.func 86) #[] #[.pointer (some ⟨w.heap.size, 0, none⟩), .pointer (some ⟨w.heap.size + 2, 0, none⟩), .pointer (some ⟨w.heap.size + 3, 0, none⟩)]] := by rw [ho]; exact Blk.new _ _ _
  rw [World.size_alloc, World.size_alloc] at h2
  rw [World.size_alloc, World.size_alloc, World.size_alloc] at h3
  exact ⟨h1, h2, h3, ⟨by omega, by omega⟩⟩
set_option maxHeartbeats 1000000 in
theorem Find_ok (m a b c d : Nat) (h1 : 1 ≤ m) (h5 : m ≤ 5) (hi : isM m = true) (hF : fndL m 4 [] = some [a, b, c, d]) (w : World) : Calls Try.prog 48 #[.int .i64 (m : Nat)] w fun e w' => e = .returned (.tuple #[arr4 a b c d, .int .i64 0]) ∧ Below w.heap.size w w' := by
  have HL := Lib.hid (fun W => length_any m W)
  rw [hi] at HL
  have HC : Hid (∀ W, GSt W m w.heap.size (w.heap.size + 2) (w.heap.size + 3) (fun _ => 0) → w.heap.size + 2 ≤ W.heap.size → Calls Try.prog 86 #[.int .i64 0, .pointer (some ⟨w.heap.size, 0, none⟩), .pointer (some ⟨w.heap.size + 2, 0, none⟩), .pointer (some ⟨w.heap.size + 3, 0, none⟩)] W fun e w' => e = .returned (.bool true) ∧ Blk 43 w' (w.heap.size + 2) #[.int .i64 (a : Nat), .int .i64 (b : Nat), .int .i64 (c : Nat), .int .i64 (d : Nat)] ∧ Below (w.heap.size + 2) W w') := Lib.hid (fun W hW hs => by
    have h9 := seek_any m w.heap.size (w.heap.size + 2) (w.heap.size + 3) (w.heap.size + 2) h1 h5 (Nat.le_refl _) 4 [] (fun _ => 0) W rfl (by simp) (fun i hi => by simp at hi) hW hs
    refine h9.mono fun e w' hh => ?_
    obtain ⟨he, q', x1, _, x3, x4⟩ := hh
    rw [hF] at he
    have t := x3 _ hF
    have hq : fourV q' = #[.int .i64 (a : Nat), .int .i64 (b : Nat), .int .i64 (c : Nat), .int .i64 (d : Nat)] := by
      unfold fourV
      rw [t 0 (by omega), t 1 (by omega), t 2 (by omega), t 3 (by omega)]
      rfl
    have x2 := x1.bs
    rw [hq] at x2
    exact ⟨he, x2, x4⟩)
  have HN := Lib.hid (gst_new w m)
  obtain ⟨wz, hwz⟩ : ∃ wz, wz = (((w.alloc (.cells #[.int .i64 (m : Nat)] 3)).alloc (.cells #[.int .i64 0, .int .i64 0, .int .i64 0, .int .i64 0] 43)).alloc (.cells #[.int .i64 0, .int .i64 0, .int .i64 0, .int .i64 0] 43)).alloc (.cells #[.func (.func 86) #[] #[.pointer (some ⟨w.heap.size, 0, none⟩), .pointer (some ⟨w.heap.size + 2, 0, none⟩), .pointer (some ⟨w.heap.size + 3, 0, none⟩)]] 56) := ⟨_, rfl⟩
  have HB : Hid (Below w.heap.size w wz) := Lib.hid (by rw [hwz]; exact ((((Below.refl _ _).alloc (Nat.le_refl _) _).alloc (by simp) _).alloc (by simp; omega) _).alloc (by simp; omega) _)
  have HZ : Hid (Blk 43 wz (w.heap.size + 1) #[.int .i64 0, .int .i64 0, .int .i64 0, .int .i64 0]) := Lib.hid (by
    rw [hwz]
    have h2 := ((Blk.new 43 (w.alloc (.cells #[.int .i64 (m : Nat)] 3)) #[.int .i64 0, .int .i64 0, .int .i64 0, .int .i64 0]).alloc (.cells #[.int .i64 0, .int .i64 0, .int .i64 0, .int .i64 0] 43)).alloc (.cells #[.func (.func 86) #[] #[.pointer (some ⟨w.heap.size, 0, none⟩), .pointer (some ⟨w.heap.size + 2, 0, none⟩), .pointer (some ⟨w.heap.size + 3, 0, none⟩)]] 56)
    rw [World.size_alloc] at h2
    exact h2)
  have hzs : w.heap.size + 2 ≤ wz.heap.size := by rw [hwz]; simp
  rw [← hwz] at HN
  have HW := Lib.hid hwz
  clear hi hF hwz
  go_enter Try.func48, Try.ntmps48
  go_wp2_with fail
  refine (HL.out _).mono ?_
  rintro e w1 ⟨rfl, rfl⟩
  go_wp2_with fail
  rw [← HW.out]
  refine (HC.out _ HN.out hzs).mono ?_
  rintro e w5 ⟨rfl, hbs, hb⟩
  have HB5 := Lib.hid (HB.out.trans (hb.mono (by omega)))
  have hz5 : Blk 43 w5 (w.heap.size + 1) #[.int .i64 0, .int .i64 0, .int .i64 0, .int .i64 0] := (hb.block _ (by omega)).trans HZ.out
  have s0 := hbs.cell 0
  have s1 := hbs.cell 1
  have s2 := hbs.cell 2
  have s3 := hbs.cell 3
  have z0 := hz5.cell 0
  have z1 := hz5.cell 1
  have z2 := hz5.cell 2
  have z3 := hz5.cell 3
  have y0 := hz5.fr 0
  have y1 := hz5.fr 1
  have y2 := hz5.fr 2
  have y3 := hz5.fr 3
  simp only [List.getElem?_toArray, List.getElem?_cons_zero, List.getElem?_cons_succ] at s0 s1 s2 s3 z0 z1 z2 z3
  go_wp2_with fail
  have hz9 : Blk 43 ((((w5.setCell ⟨w.heap.size + 1, 0, none⟩ (.int .i64 (a : Nat))).setCell ⟨w.heap.size + 1, 1, none⟩ (.int .i64 (b : Nat))).setCell ⟨w.heap.size + 1, 2, none⟩ (.int .i64 (c : Nat))).setCell ⟨w.heap.size + 1, 3, none⟩ (.int .i64 (d : Nat))) (w.heap.size + 1) #[.int .i64 (a : Nat), .int .i64 (b : Nat), .int .i64 (c : Nat), .int .i64 (d : Nat)] :=
    (((hz5.set 0 (.int .i64 (a : Nat))).set 1 (.int .i64 (b : Nat))).set 2 (.int .i64 (c : Nat))).set 3 (.int .i64 (d : Nat))
  have HB9 : Below w.heap.size w ((((w5.setCell ⟨w.heap.size + 1, 0, none⟩ (.int .i64 (a : Nat))).setCell ⟨w.heap.size + 1, 1, none⟩ (.int .i64 (b : Nat))).setCell ⟨w.heap.size + 1, 2, none⟩ (.int .i64 (c : Nat))).setCell ⟨w.heap.size + 1, 3, none⟩ (.int .i64 (d : Nat))) :=
    below_set (below_set (below_set (below_set HB5.out (a := ⟨w.heap.size + 1, 0, none⟩) (Nat.le_succ _) _) (a := ⟨w.heap.size + 1, 1, none⟩) (Nat.le_succ _) _) (a := ⟨w.heap.size + 1, 2, none⟩) (Nat.le_succ _) _) (a := ⟨w.heap.size + 1, 3, none⟩) (Nat.le_succ _) _
  generalize (((w5.setCell ⟨w.heap.size + 1, 0, none⟩ (.int .i64 (a : Nat))).setCell ⟨w.heap.size + 1, 1, none⟩ (.int .i64 (b : Nat))).setCell ⟨w.heap.size + 1, 2, none⟩ (.int .i64 (c : Nat))).setCell ⟨w.heap.size + 1, 3, none⟩ (.int .i64 (d : Nat)) = w9 at *
  have e0 := hz9.cell 0
  have e1 := hz9.cell 1
  have e2 := hz9.cell 2
  have e3 := hz9.cell 3
  refine bodyPost_ret (v := .tuple #[arr4 a b c d, .int .i64 0]) ?_ rfl ⟨rfl, HB9⟩
  simp [results, Try.f48, go_sem, e0, e1, e2, e3]
end Go.Proofs.Ytopmdmafameknaa
