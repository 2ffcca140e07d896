/- the reference: Coset -/
import Derived.Test.YtlnbodpdgebflaaEh
import Derived.Test.YtlnbodpdgebflaaEc
import Derived.Deep.RegionHeld3
namespace Go.Proofs.Ytlnbodpdgebflaa
open Go.RowKit

set_option maxRecDepth 20000 in
set_option maxHeartbeats 2000000 in
theorem RCoset_any (g b0 c0 b1 c1 b2 c2 x m : Nat) (hg : g < 17) (w : World) (h : RP w g b0 b1 b2) (hx : x < nE g) (h16 : m < 16) :
    Calls Try.prog 51 #[rV g b0 c0 b1 c1 b2 c2, .int .i64 x, .int .i64 m] w fun e w' => e = .returned (.int .i64 (shB g m x : Nat)) ∧ Below w.heap.size w w' := by
  have HR := Lib.hid (h.box c0 c1 c2)
  have HLn := Lib.hid (fun y W hW hy => Len_any g b0 c0 b1 c1 b2 c2 y hg W hW hy)
  have hE := (tE hg).2
  have hk4 := (tg hg).2.2.2.1
  clear h
  obtain ⟨R, hR⟩ : ∃ R, R = shB g m x := ⟨_, rfl⟩
  rw [← hR]
  have HSh := Lib.hid hR
  clear hR
  unfold rV at HLn ⊢
  go_enter Try.func51, Try.ntmps51
  go_wp2_with fail
  go_loopw [7, 1] (fun bb i wr => ∃ (y : Nat) (q : Bool), y < nE g ∧ bb = .bool q ∧ i = .int .i64 y ∧ R = shB g m y ∧ (q = false → shS g m y = none) ∧ RB wr w.heap.size g b0 c0 b1 c1 b2 c2 ∧ Below w.heap.size w wr) (fun bb i _ => 2 * ln g (intOf i).toNat + (match bb with | .bool true => 1 | _ => 0))
  case atStart => exact ⟨x, true, hx, rfl, rfl, HSh.out, fun e => (by cases e), HR.out, a1 _ _⟩
  case round =>
    clear HR HSh
    obtain ⟨y, q, hy, rfl, rfl, hRy, hq, hR, hb⟩ := hrel
    have HRy := Lib.hid hRy
    have HQ := Lib.hid hq
    have HR := Lib.hid hR
    have HB := Lib.hid hb
    clear hRy hq hR hb
    cases q with
    | false =>
      have HE : Hid (R = y) := Lib.hid (by rw [HRy.out]; exact shB_none (HQ.out rfl))
      clear HRy HQ
      go_wp2_with fail
      go_ret
      exact ⟨by rw [HE.out]; rfl, HB.out⟩
    | true =>
      clear HQ
      obtain ⟨rq, ro, rc, r1, r4⟩ := HR.out.rp.row hg hy
      have HR4 := Lib.hid r4
      have t2 := HR.out.at.2.2
      clear r4
      go_wp2_with fail
      go_loopw [17, 7, 1] (fun i b7 tb1 wi => ∃ k : Nat, k ≤ kM g ∧ i = .int .i64 k ∧ b7 = .bool false ∧ tb1 = .int .i64 y ∧ (∀ t, t < k → (m.testBit t && flB g y t) = false) ∧ RB wi w.heap.size g b0 c0 b1 c1 b2 c2 ∧ Below w.heap.size w wi ∧ (∀ s, s < kM g → wi.cell? ⟨rq, ro + s, none⟩ = some (.int .i64 (rt g y s : Nat)))) (fun i _ _ _ => kM g - (intOf i).toNat)
      case atStart => exact ⟨0, Nat.zero_le _, rfl, rfl, rfl, fun t ht => absurd ht (by omega), HR.out, HB.out, HR4.out⟩
      case round =>
        rename World => wi
        clear HR HB HR4 r1 t2
        obtain ⟨k, hk, rfl, rfl, rfl, hall, hR, hb, hr4⟩ := hrel
        have HA := Lib.hid hall
        have HRi := Lib.hid hR
        have HBi := Lib.hid hb
        have HR4 := Lib.hid hr4
        clear hall hR hb hr4
        by_cases hl : k < kM g
        · have r4 := HR4.out k hl
          have hbit := bit_and1 m k (by omega)
          have HS : Hid ((m.testBit k && flB g y k) = false → ∀ t, t < k + 1 → (m.testBit t && flB g y t) = false) := Lib.hid (fun e t ht => if q : t = k then q ▸ e else HA.out t (by omega))
          have hr2 := (tb hg hy hl).2.1
          have hr128 : rt g y k < 128 := by omega
          have hln1 := (tx hg hy).2.1
          have hln2 := (tx hg hr2).2.1
          cases hbk : m.testBit k with
          | false =>
            rw [hbk] at hbit HS
            have hbit' : bits .and .i64 ((m:Int) / 2 ^ k) 1 = 0 := hbit
            have HE := Lib.hid (HS.out rfl)
            clear hbit hbk HS HLn hln2
            generalize rt g y k = r at *
            go_wp2_with fail
            refine wp_region_held_drew (S := fun _ => True) (by kernel_rfl) trivial (fun hS0 => ?_)
            refine wpAnyH_take (i := 0) (oi := { dst := some 22, op := Op.move (Operand.tmp 2), type := 3, pos := "ref.go:249", after := #[], guard := none }) (v := (.int .i64 m)) rfl (by kernel_rfl) (by kernel_rfl) (by kernel_rfl) (fun _ _ _ h => h) (Or.inl ⟨by kernel_rfl, fun w' hSw => by go_simp⟩) hS0 ?_
            try simp only [Act.put, List.setIfInBounds_toArray, List.set_cons_zero, List.set_cons_succ]
            refine wpAnyH_take (i := 1) (oi := { dst := some 23, op := Op.move (Operand.tmp 8), type := 3, pos := "ref.go:249", after := #[], guard := none }) (v := (.int .i64 k)) rfl (by kernel_rfl) (by kernel_rfl) (by kernel_rfl) (fun _ _ _ h => h) (Or.inl ⟨by kernel_rfl, fun w' hSw => by go_simp⟩) hS0 ?_
            try simp only [Act.put, List.setIfInBounds_toArray, List.set_cons_zero, List.set_cons_succ]
            refine wpAnyH_take (i := 2) (oi := { dst := some 24, op := Op.binOp BinOp.shr 3 (Operand.tmp 22) (Operand.tmp 23) 3, type := 3, pos := "ref.go:249", after := #[{ on := 0, ground := Ground.data }, { on := 1, ground := Ground.data }], guard := none }) (v := (.int .i64 ((m : Int) / 2 ^ k))) rfl (by kernel_rfl) (by kernel_rfl) (by kernel_rfl) (fun _ _ _ h => h) (Or.inl ⟨by kernel_rfl, fun w' hSw => by go_simp⟩) hS0 ?_
            try simp only [Act.put, List.setIfInBounds_toArray, List.set_cons_zero, List.set_cons_succ]
            refine wpAnyH_take (i := 3) (oi := { dst := some 25, op := Op.binOp BinOp.and 3 (Operand.tmp 24) (Operand.const (Value.int IntKind.i64 1)) 3, type := 3, pos := "ref.go:249", after := #[{ on := 2, ground := Ground.data }], guard := none }) (v := (.int .i64 0)) rfl (by kernel_rfl) (by kernel_rfl) (by kernel_rfl) (fun _ _ _ h => h) (Or.inl ⟨by kernel_rfl, fun w' hSw => by go_simp⟩) hS0 ?_
            try simp only [Act.put, List.setIfInBounds_toArray, List.set_cons_zero, List.set_cons_succ]
            refine wpAnyH_take (i := 4) (oi := { dst := some 26, op := Op.binOp BinOp.eql 3 (Operand.tmp 25) (Operand.const (Value.int IntKind.i64 1)) 3, type := 4, pos := "ref.go:249", after := #[{ on := 3, ground := Ground.data }], guard := none }) (v := (.bool false)) rfl (by kernel_rfl) (by kernel_rfl) (by kernel_rfl) (fun _ _ _ h => h) (Or.inl ⟨by kernel_rfl, fun w' hSw => by go_simp⟩) hS0 ?_
            try simp only [Act.put, List.setIfInBounds_toArray, List.set_cons_zero, List.set_cons_succ]
            refine wpAnyH_take (i := 5) (oi := { dst := some 27, op := Op.move (Operand.tmp 26), type := 4, pos := "ref.go:249", after := #[{ on := 4, ground := Ground.data }], guard := none }) (v := (.bool false)) rfl (by kernel_rfl) (by kernel_rfl) (by kernel_rfl) (fun _ _ _ h => h) (Or.inl ⟨by kernel_rfl, fun w' hSw => by go_simp⟩) hS0 ?_
            try simp only [Act.put, List.setIfInBounds_toArray, List.set_cons_zero, List.set_cons_succ]
            refine wpAnyH_take (i := 6) (oi := { dst := some 28, op := Op.load 39 (Operand.tmp 3), type := 39, pos := "ref.go:249", after := #[{ on := 5, ground := Ground.guard }], guard := some (5, true) }) (v := (undef)) rfl (by kernel_rfl) (by kernel_rfl) (by kernel_rfl) (fun _ _ _ h => h) (Or.inr ⟨by kernel_rfl, rfl⟩) hS0 ?_
            try simp only [Act.put, List.setIfInBounds_toArray, List.set_cons_zero, List.set_cons_succ]
            refine wpAnyH_take (i := 7) (oi := { dst := some 29, op := Op.move (Operand.tmp 9), type := 3, pos := "ref.go:249", after := #[{ on := 5, ground := Ground.guard }], guard := some (5, true) }) (v := (undef)) rfl (by kernel_rfl) (by kernel_rfl) (by kernel_rfl) (fun _ _ _ h => h) (Or.inr ⟨by kernel_rfl, rfl⟩) hS0 ?_
            try simp only [Act.put, List.setIfInBounds_toArray, List.set_cons_zero, List.set_cons_succ]
            refine wpAnyH_take (i := 8) (oi := { dst := some 30, op := Op.call { callee := Callee.value (Operand.func 29), args := #[Operand.tmp 28, Operand.tmp 29], argTypes := #[39, 3] }, type := 3, pos := "ref.go:249", after := #[{ on := 6, ground := Ground.data }, { on := 7, ground := Ground.data }, { on := 5, ground := Ground.chain }, { on := 5, ground := Ground.guard }], guard := some (5, true) }) (v := (undef)) rfl (by kernel_rfl) (by kernel_rfl) (by kernel_rfl) (fun _ _ _ h => h) (Or.inr ⟨by kernel_rfl, rfl⟩) hS0 ?_
            try simp only [Act.put, List.setIfInBounds_toArray, List.set_cons_zero, List.set_cons_succ]
            refine wpAnyH_take (i := 9) (oi := { dst := some 31, op := Op.load 39 (Operand.tmp 3), type := 39, pos := "ref.go:249", after := #[{ on := 5, ground := Ground.guard }], guard := some (5, true) }) (v := (undef)) rfl (by kernel_rfl) (by kernel_rfl) (by kernel_rfl) (fun _ _ _ h => h) (Or.inr ⟨by kernel_rfl, rfl⟩) hS0 ?_
            try simp only [Act.put, List.setIfInBounds_toArray, List.set_cons_zero, List.set_cons_succ]
            refine wpAnyH_take (i := 10) (oi := { dst := some 32, op := Op.move (Operand.tmp 1), type := 3, pos := "ref.go:249", after := #[{ on := 5, ground := Ground.guard }], guard := some (5, true) }) (v := (undef)) rfl (by kernel_rfl) (by kernel_rfl) (by kernel_rfl) (fun _ _ _ h => h) (Or.inr ⟨by kernel_rfl, rfl⟩) hS0 ?_
            try simp only [Act.put, List.setIfInBounds_toArray, List.set_cons_zero, List.set_cons_succ]
            refine wpAnyH_take (i := 11) (oi := { dst := some 33, op := Op.call { callee := Callee.value (Operand.func 29), args := #[Operand.tmp 31, Operand.tmp 32], argTypes := #[39, 3] }, type := 3, pos := "ref.go:249", after := #[{ on := 9, ground := Ground.data }, { on := 10, ground := Ground.data }, { on := 8, ground := Ground.chain }, { on := 5, ground := Ground.guard }], guard := some (5, true) }) (v := (undef)) rfl (by kernel_rfl) (by kernel_rfl) (by kernel_rfl) (fun _ _ _ h => h) (Or.inr ⟨by kernel_rfl, rfl⟩) hS0 ?_
            try simp only [Act.put, List.setIfInBounds_toArray, List.set_cons_zero, List.set_cons_succ]
            refine wpAnyH_take (i := 12) (oi := { dst := some 34, op := Op.binOp BinOp.lss 3 (Operand.tmp 30) (Operand.tmp 33) 3, type := 4, pos := "ref.go:249", after := #[{ on := 8, ground := Ground.data }, { on := 11, ground := Ground.data }, { on := 5, ground := Ground.guard }], guard := some (5, true) }) (v := (undef)) rfl (by kernel_rfl) (by kernel_rfl) (by kernel_rfl) (fun _ _ _ h => h) (Or.inr ⟨by kernel_rfl, rfl⟩) hS0 ?_
            try simp only [Act.put, List.setIfInBounds_toArray, List.set_cons_zero, List.set_cons_succ]
            refine wpAnyH_take (i := 13) (oi := { dst := some 35, op := Op.pick (Operand.tmp 27) (Operand.tmp 34) (Operand.const (Value.bool false)), type := 4, pos := "ref.go:249", after := #[{ on := 5, ground := Ground.data }, { on := 12, ground := Ground.data }], guard := none }) (v := (.bool false)) rfl (by kernel_rfl) (by kernel_rfl) (by kernel_rfl) (fun _ _ _ h => h) (Or.inl ⟨by kernel_rfl, fun w' hSw => by go_simp⟩) hS0 ?_
            try simp only [Act.put, List.setIfInBounds_toArray, List.set_cons_zero, List.set_cons_succ]
            refine wpAnyH_done (by kernel_rfl) ?_ _
            go_wp2_with fail
            (go_roundw; (case rel => exact ⟨k + 1, by omega, by go_num, rfl, rfl, HE.out, HRi.out.below (below_drew (Below.refl _ _)), below_drew HBi.out, fun s hs => HR4.out s hs⟩); (case measure => simp [intOf]; omega))
          | true =>
            rw [hbk] at hbit HS
            have hbit' : bits .and .i64 ((m:Int) / 2 ^ k) 1 = 1 := hbit
            clear hbit
            go_wp2_with fail
            refine wp_region_held_drew (S := fun W => RB W w.heap.size g b0 c0 b1 c1 b2 c2) (by kernel_rfl) (HRi.out.below (below_drew (Below.refl _ _))) (fun hS0 => ?_)
            have hBd : Below wi.heap.size wi wi.drew := below_drew (Below.refl _ _)
            refine wpAnyH_take (i := 0) (oi := { dst := some 22, op := Op.move (Operand.tmp 2), type := 3, pos := "ref.go:249", after := #[], guard := none }) (v := (.int .i64 m)) rfl (by kernel_rfl) (by kernel_rfl) (by kernel_rfl) (fun _ _ _ h => h) (Or.inl ⟨by kernel_rfl, fun w' hSw => by go_simp⟩) hS0 ?_
            try simp only [Act.put, List.setIfInBounds_toArray, List.set_cons_zero, List.set_cons_succ]
            refine wpAnyH_take (i := 1) (oi := { dst := some 23, op := Op.move (Operand.tmp 8), type := 3, pos := "ref.go:249", after := #[], guard := none }) (v := (.int .i64 k)) rfl (by kernel_rfl) (by kernel_rfl) (by kernel_rfl) (fun _ _ _ h => h) (Or.inl ⟨by kernel_rfl, fun w' hSw => by go_simp⟩) hS0 ?_
            try simp only [Act.put, List.setIfInBounds_toArray, List.set_cons_zero, List.set_cons_succ]
            refine wpAnyH_take (i := 2) (oi := { dst := some 24, op := Op.binOp BinOp.shr 3 (Operand.tmp 22) (Operand.tmp 23) 3, type := 3, pos := "ref.go:249", after := #[{ on := 0, ground := Ground.data }, { on := 1, ground := Ground.data }], guard := none }) (v := (.int .i64 ((m : Int) / 2 ^ k))) rfl (by kernel_rfl) (by kernel_rfl) (by kernel_rfl) (fun _ _ _ h => h) (Or.inl ⟨by kernel_rfl, fun w' hSw => by go_simp⟩) hS0 ?_
            try simp only [Act.put, List.setIfInBounds_toArray, List.set_cons_zero, List.set_cons_succ]
            refine wpAnyH_take (i := 3) (oi := { dst := some 25, op := Op.binOp BinOp.and 3 (Operand.tmp 24) (Operand.const (Value.int IntKind.i64 1)) 3, type := 3, pos := "ref.go:249", after := #[{ on := 2, ground := Ground.data }], guard := none }) (v := (.int .i64 1)) rfl (by kernel_rfl) (by kernel_rfl) (by kernel_rfl) (fun _ _ _ h => h) (Or.inl ⟨by kernel_rfl, fun w' hSw => by go_simp⟩) hS0 ?_
            try simp only [Act.put, List.setIfInBounds_toArray, List.set_cons_zero, List.set_cons_succ]
            refine wpAnyH_take (i := 4) (oi := { dst := some 26, op := Op.binOp BinOp.eql 3 (Operand.tmp 25) (Operand.const (Value.int IntKind.i64 1)) 3, type := 4, pos := "ref.go:249", after := #[{ on := 3, ground := Ground.data }], guard := none }) (v := (.bool true)) rfl (by kernel_rfl) (by kernel_rfl) (by kernel_rfl) (fun _ _ _ h => h) (Or.inl ⟨by kernel_rfl, fun w' hSw => by go_simp⟩) hS0 ?_
            try simp only [Act.put, List.setIfInBounds_toArray, List.set_cons_zero, List.set_cons_succ]
            refine wpAnyH_take (i := 5) (oi := { dst := some 27, op := Op.move (Operand.tmp 26), type := 4, pos := "ref.go:249", after := #[{ on := 4, ground := Ground.data }], guard := none }) (v := (.bool true)) rfl (by kernel_rfl) (by kernel_rfl) (by kernel_rfl) (fun _ _ _ h => h) (Or.inl ⟨by kernel_rfl, fun w' hSw => by go_simp⟩) hS0 ?_
            try simp only [Act.put, List.setIfInBounds_toArray, List.set_cons_zero, List.set_cons_succ]
            refine wpAnyH_take (i := 6) (oi := { dst := some 28, op := Op.load 39 (Operand.tmp 3), type := 39, pos := "ref.go:249", after := #[{ on := 5, ground := Ground.guard }], guard := some (5, true) }) (v := (.agg #[.slice (some ⟨b0, 0, none⟩) (nE g) c0, .slice (some ⟨b1, 0, none⟩) (nE g) c1, .slice (some ⟨b2, 0, none⟩) (nE g) c2])) rfl (by kernel_rfl) (by kernel_rfl) (by kernel_rfl) (fun _ _ _ h => h) (Or.inl ⟨by kernel_rfl, (fun w' hSw => by have h0 := hSw.at.1; have h1 := hSw.at.2.1; have h2 := hSw.at.2.2; go_simp)⟩) hS0 ?_
            try simp only [Act.put, List.setIfInBounds_toArray, List.set_cons_zero, List.set_cons_succ]
            refine wpAnyH_take (i := 7) (oi := { dst := some 29, op := Op.move (Operand.tmp 9), type := 3, pos := "ref.go:249", after := #[{ on := 5, ground := Ground.guard }], guard := some (5, true) }) (v := (.int .i64 (rt g y k : Nat))) rfl (by kernel_rfl) (by kernel_rfl) (by kernel_rfl) (fun _ _ _ h => h) (Or.inl ⟨by kernel_rfl, fun w' hSw => by go_simp⟩) hS0 ?_
            try simp only [Act.put, List.setIfInBounds_toArray, List.set_cons_zero, List.set_cons_succ]
            refine wpAnyH_take (i := 9) (oi := { dst := some 31, op := Op.load 39 (Operand.tmp 3), type := 39, pos := "ref.go:249", after := #[{ on := 5, ground := Ground.guard }], guard := some (5, true) }) (v := (.agg #[.slice (some ⟨b0, 0, none⟩) (nE g) c0, .slice (some ⟨b1, 0, none⟩) (nE g) c1, .slice (some ⟨b2, 0, none⟩) (nE g) c2])) rfl (by kernel_rfl) (by kernel_rfl) (by kernel_rfl) (fun _ _ _ h => h) (Or.inl ⟨by kernel_rfl, (fun w' hSw => by have h0 := hSw.at.1; have h1 := hSw.at.2.1; have h2 := hSw.at.2.2; go_simp)⟩) hS0 ?_
            try simp only [Act.put, List.setIfInBounds_toArray, List.set_cons_zero, List.set_cons_succ]
            refine wpAnyH_take (i := 10) (oi := { dst := some 32, op := Op.move (Operand.tmp 1), type := 3, pos := "ref.go:249", after := #[{ on := 5, ground := Ground.guard }], guard := some (5, true) }) (v := (.int .i64 y)) rfl (by kernel_rfl) (by kernel_rfl) (by kernel_rfl) (fun _ _ _ h => h) (Or.inl ⟨by kernel_rfl, fun w' hSw => by go_simp⟩) hS0 ?_
            try simp only [Act.put, List.setIfInBounds_toArray, List.set_cons_zero, List.set_cons_succ]
            refine wpAnyH_ready (rs := [8]) (by kernel_rfl) (by simp) (AllReadyH.cons rfl (fun K hK => ?_) AllReadyH.nil)
            rw [if_pos (by kernel_rfl)]
            go_simp
            refine (HLn.out _ _ hS0.rp hr2).mono ?_
            rintro e wa ⟨rfl, hba⟩
            have hSa := hS0.below hba
            refine hK.out _ _ hSa fun _ => ?_
            clear hK
            refine wpAnyH_ready (rs := [11]) (by kernel_rfl) (by simp) (AllReadyH.cons rfl (fun K hK => ?_) AllReadyH.nil)
            rw [if_pos (by kernel_rfl)]
            go_simp
            refine (HLn.out _ _ hSa.rp hy).mono ?_
            rintro e wb ⟨rfl, hbb⟩
            have hSb := hSa.below hbb
            refine hK.out _ _ hSb fun _ => ?_
            clear hK
            refine wpAnyH_take (i := 12) (oi := { dst := some 34, op := Op.binOp BinOp.lss 3 (Operand.tmp 30) (Operand.tmp 33) 3, type := 4, pos := "ref.go:249", after := #[{ on := 8, ground := Ground.data }, { on := 11, ground := Ground.data }, { on := 5, ground := Ground.guard }], guard := some (5, true) }) (v := (.bool (decide (ln g (rt g y k) < ln g y)))) rfl (by kernel_rfl) (by kernel_rfl) (by kernel_rfl) (fun _ _ _ h => h) (Or.inl ⟨by kernel_rfl, fun w' hSw => by go_simp⟩) hSb ?_
            try simp only [Act.put, List.setIfInBounds_toArray, List.set_cons_zero, List.set_cons_succ]
            refine wpAnyH_take (i := 13) (oi := { dst := some 35, op := Op.pick (Operand.tmp 27) (Operand.tmp 34) (Operand.const (Value.bool false)), type := 4, pos := "ref.go:249", after := #[{ on := 5, ground := Ground.data }, { on := 12, ground := Ground.data }], guard := none }) (v := (.bool (decide (ln g (rt g y k) < ln g y)))) rfl (by kernel_rfl) (by kernel_rfl) (by kernel_rfl) (fun _ _ _ h => h) (Or.inl ⟨by kernel_rfl, fun w' hSw => by go_simp⟩) hSb ?_
            try simp only [Act.put, List.setIfInBounds_toArray, List.set_cons_zero, List.set_cons_succ]
            refine wpAnyH_done (by kernel_rfl) ?_ _
            have HRb := Lib.hid hSb
            have HBw : Hid (Below wi.heap.size wi wb) := Lib.hid (hBd.trans ((hba.mono hBd.size).trans (hbb.mono (Nat.le_trans hBd.size hba.size))))
            have HBb : Hid (Below w.heap.size w wb) := Lib.hid (HBi.out.trans (HBw.out.mono HBi.out.size))
            clear hS0 hSa hSb hba hbb hBd
            by_cases hf : ln g (rt g y k) < ln g y
            · have hfb : flB g y k = true := decide_eq_true hf
              have HE := Lib.hid (shB_some hg hy hl (shS_some hl HA.out (by rw [hbk, hfb]; rfl)) hfb)
              have HE2 : Hid (R = shB g m (rt g y k)) := Lib.hid (by rw [HRy.out, HE.out])
              clear hfb HE HS hbk
              go_wp2_with fail
              go_roundw
              case rel => exact ⟨rt g y k, true, hr2, rfl, rfl, HE2.out, fun e => (by cases e), HRb.out, HBb.out⟩
              case measure => simp [intOf]; omega
            · have hfb : flB g y k = false := decide_eq_false hf
              have HE := Lib.hid (HS.out (by rw [hfb]; rfl))
              have HR4b : Hid (∀ s, s < kM g → wb.cell? ⟨rq, ro + s, none⟩ = some (.int .i64 (rt g y s : Nat))) := Lib.hid (fun s hs => ck (HR4.out s hs) HBw.out)
              clear hfb HS hbk
              go_wp2_with fail
              go_roundw
              case rel => exact ⟨k + 1, by omega, by go_num, rfl, rfl, HE.out, HRb.out, HBb.out, HR4b.out⟩
              case measure => simp [intOf]; omega
        · have hkk : k = kM g := by omega
          have HE : Hid (shS g m y = none) := Lib.hid (shS_none (by rw [← hkk]; exact HA.out))
          clear hkk
          go_wp2_with fail
          go_roundw
          case rel => exact ⟨y, false, hy, rfl, rfl, HRy.out, fun _ => HE.out, HRi.out, HBi.out⟩
          case measure => simp [intOf]
end Go.Proofs.Ytlnbodpdgebflaa
