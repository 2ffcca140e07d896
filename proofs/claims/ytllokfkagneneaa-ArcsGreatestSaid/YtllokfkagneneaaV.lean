/- sets: Clone, Equal, list, set, Set, Miss, Blocks -/
import Derived.Test.YtllokfkagneneaaU
import Derived.Test.YtllokfkagneneaaJ
import Derived.Laws.EntriesVeiled
namespace Go.Proofs.Ytllokfkagneneaa
open Go.RowKit

theorem ints_oneCell (zs : List Int) : ∀ u ∈ ints zs, u.oneCell' = true := by
  intro u hu; simp only [ints, List.mem_map] at hu; obtain ⟨x, _, rfl⟩ := hu; rfl

set_option maxHeartbeats 400000 in
theorem clone1_any (v : Value) (zs : List Int) (w : World) (h : Ints w v zs) :
    Calls Try.prog 65 #[v] w fun e w' => ∃ ao c, e = .returned (.slice ao zs.length c) ∧ w'.ownsRow w.heap.size 3 1 (.slice ao zs.length c) zs.length (ints zs) ∧ Below w.heap.size w w' := by
  obtain ⟨ao, cap, rfl, h1, h2, hc⟩ := h.open
  have hq := fun w a n c => Lib.run_eql_slice_nil (P := Try.prog) w 38 3 a n c 0 0 Try.underlying38
  rcases ao with _ | ad
  · obtain rfl : zs = [] := by
      cases zs with
      | nil => rfl
      | cons x t =>
        obtain ⟨b, o, e, _⟩ := hc 0 (by simp)
        cases e
    clear h h1 h2 hc
    go_enter Try.func65, Try.ntmps65
    go_wp2
    go_ret
    exact ⟨_, _, rfl, World.ownsRow_nil _ _ _ _, Below.refl _ _⟩
  · obtain ⟨i0, hi, hz0, hz1, hz2⟩ := info_parts Try.info3
    clear h
    go_enter Try.func65, Try.ntmps65
    go_wp2_with (at_builtin; go_must (refine wpList_append_own _ rfl _ _ 38 rfl w.heap.size 3 i0 (.int .i64 0) 1 8 Try.underlying38 hi hz0 hz1 hz2 rfl (by decide) _ _ _ rfl (World.ownsRow_made w #[] 0 (Nat.le_refl _) (Nat.zero_le _) rfl) ad zs.length cap (ints zs) rfl (by simp [ints]) ?c1 ?c2 ?c3 ?c4 ?c5 ?_))
    case c1 =>
      intro j u hj
      have hlt : j < zs.length := by have := (List.getElem?_eq_some_iff.1 hj).1; simpa [ints] using this
      obtain ⟨b, o, e, hck⟩ := hc j hlt
      obtain rfl := Option.some.inj e
      have hu : u = .int .i64 (zs.getD j 0) := by simp [ints, hlt] at hj; simp [hlt, ← hj]
      rw [Addr.add_lit, hu, ← hck]
      exact World.cell?_alloc_past _ _ _ (by have := World.block_lt_of_cell? w _ hck; exact this)
    case c2 => exact ints_oneCell _
    case c3 => unfold maxLen; omega
    case c4 => omega
    case c5 => simp
    intro v' w1 hown hg _
    have HO : w1.ownsRow w.heap.size 3 1 v' zs.length (ints zs) := by simpa using hown
    have HB : Below w.heap.size w w1 := ((Below.refl _ _).alloc (Nat.le_refl _) _).grown hg (by simp) (by intro k hk; simp [Value.ownBlock] at hk; omega)
    obtain ⟨ao', c', rfl⟩ := owns_form HO
    clear hown hg hc hq
    go_wp2
    go_ret
    exact ⟨_, _, rfl, HO, HB⟩

theorem Ints.of_owns {w : World} {B : Nat} {v : Value} {n : Nat} {xs : List Int} (h : w.ownsRow B 3 1 v n (ints xs)) (hn : n ≤ 17592186044416) (hb : ∀ x ∈ xs, I64 x) : Ints w v xs := ⟨Sl.of_owns h hn, hb⟩

set_option maxHeartbeats 400000 in
theorem list_any (v : Value) (zs : List Int) (w : World) (h : Ints w v zs) :
    Calls Try.prog 31 #[v] w fun e w' => ∃ v', e = .returned v' ∧ Ints w' v' (zs.take 60) ∧ Below w.heap.size w w' := by
  obtain ⟨ao, cap, rfl, h1, h2, hc⟩ := h.open
  have HT := Lib.hid (fun k (hk : k ≤ zs.length) => clone1_any _ _ w (h.take hk))
  have HB := Lib.hid h.2
  clear h hc
  by_cases hl : zs.length ≤ 60
  · have HT' := Lib.hid (HT.out zs.length (Nat.le_refl _))
    have hm : min (zs.length : Int) 60 = zs.length := by omega
    have hm2 : min zs.length 60 = zs.length := by omega
    have HE : Hid (zs.take 60 = zs) := List.take_of_length_le hl
    rw [List.take_length] at HT'
    go_enter Try.func31, Try.ntmps31
    go_wp2_with fail
    refine HT'.out.mono ?_
    rintro e w1 ⟨ao1, c1, rfl, hown, hb1⟩
    have HO := Lib.hid (Ints.of_owns hown h2 HB.out)
    have HB1 := Lib.hid hb1
    clear hown hb1
    go_wp2
    go_ret
    exact ⟨_, rfl, by rw [HE.out]; exact HO.out, HB1.out⟩
  · have HT' := Lib.hid (HT.out 60 (by omega))
    have hm : min (zs.length : Int) 60 = 60 := by omega
    have hln : (zs.take 60).length = 60 := by rw [List.length_take]; omega
    rw [hln] at HT'
    clear hln
    go_enter Try.func31, Try.ntmps31
    go_wp2_with fail
    refine HT'.out.mono ?_
    rintro e w1 ⟨ao1, c1, rfl, hown, hb1⟩
    have HO := Lib.hid (Ints.of_owns hown (by omega) (fun x hx => HB.out x (List.mem_of_mem_take hx)))
    have HB1 := Lib.hid hb1
    clear hown hb1
    go_wp2
    go_ret
    exact ⟨_, rfl, HO.out, HB1.out⟩

set_option maxHeartbeats 2000000 in
theorem equal_same (v v' : Value) (xs : List Int) (w : World) (h : Ints w v xs) (h' : Ints w v' xs) :
    Calls Try.prog 37 #[v, v'] w fun e w' => e = .returned (.bool true) ∧ Below w.heap.size w w' := by
  obtain ⟨ao, cap, rfl, h1, h2, hc⟩ := h.open
  obtain ⟨ao', cap', rfl, h1', h2', hc'⟩ := h'.open
  have HX := Lib.hid hc
  have HX' := Lib.hid hc'
  clear h h' hc hc'
  go_enter Try.func37, Try.ntmps37
  go_wp2
  go_loopw [13] (fun i wr => ∃ k m : Nat, k ≤ xs.length ∧ i = .int .i64 k ∧ wr = w.drewN m) (fun i _ => xs.length - (intOf i).toNat)
  case atStart => exact ⟨0, 0, Nat.zero_le _, rfl, rfl⟩
  case round =>
    obtain ⟨k, m, hk, rfl, hw⟩ := hrel
    by_cases hlt : k < xs.length
    · obtain ⟨b, o, rfl, hck⟩ := HX.out k hlt
      obtain ⟨b', o', rfl, hck'⟩ := HX'.out k hlt
      generalize xs.getD k 0 = z at *
      have hz : (z != z) = false := by simp
      subst hw
      go_wp2
      go_quiet (fail)
      go_wp2
      go_roundw
      case rel => exact ⟨k + 1, m + nq, by omega, by go_num, by first | rfl | rw [World.drewN_drewN]⟩
      case measure => simp [intOf]; omega
    · obtain rfl : k = xs.length := by omega
      subst hw
      go_wp2
      go_ret
      exact ⟨rfl, below_drewN (Below.refl _ _) _⟩

set_option maxHeartbeats 2000000 in
theorem rSet_any (q : Nat) (v : Value) (xs : List Int) (w : World) (hq : isPn q) (h : Ints w v xs) :
    Calls Try.prog 43 #[.int .i64 q, v] w fun e w' => e = .returned (.bool (inB q xs && risB xs)) ∧ w = w' := by
  obtain ⟨ao, cap, rfl, h1, h2, hx⟩ := h.open
  have HX := Lib.hid hx
  have HQ := Lib.hid hq
  clear h hx hq
  go_enter Try.func43, Try.ntmps43
  go_wp2
  go_loop [9] (fun i => ∃ k : Nat, k ≤ xs.length ∧ i = .int .i64 k ∧ (∀ j : Nat, j < k → pointB q (xs.getD j 0) = true) ∧ ∀ j : Nat, j < k → (0 < j → xs.getD (j-1) 0 < xs.getD j 0)) (fun i => xs.length - (intOf i).toNat)
  case atStart => exact ⟨0, Nat.zero_le _, rfl, fun j hj => absurd hj (by omega), fun j hj => absurd hj (by omega)⟩
  case round =>
    obtain ⟨k, hk, rfl, ha1, ha2⟩ := hrel
    have HA1 := Lib.hid ha1
    have HA2 := Lib.hid ha2
    clear ha1 ha2
    by_cases hlt : k < xs.length
    · obtain ⟨b, o, rfl, hck⟩ := HX.out k hlt
      have HC := Lib.hid (point_any q (xs.getD k 0) w HQ.out)
      cases hb : pointB q (xs.getD k 0) with
      | false =>
        have H := Lib.hid (inB_false' hlt hb)
        rw [hb] at HC
        clear hb
        generalize xs.getD k 0 = z at *
        go_wp2_with fail
        refine HC.out.mono ?_
        rintro e w' ⟨rfl, rfl⟩
        go_wp2
        go_ret
        exact ⟨ret_bool (by rw [H.out]; rfl), rfl⟩
      | true =>
        have H := Lib.hid (fun (j : Nat) (hj : j < k + 1) => if e : j = k then e ▸ hb else HA1.out j (by omega))
        rw [hb] at HC
        clear hb
        rcases Nat.eq_zero_or_pos k with hk0 | hpos
        · have HN : Hid (∀ j : Nat, j < k + 1 → (0 < j → xs.getD (j-1) 0 < xs.getD j 0)) := fun j hj h0 => absurd hj (by omega)
          have hk0' : k ≤ 0 := by omega
          clear hk0
          generalize xs.getD k 0 = z at *
          go_wp2_with fail
          refine HC.out.mono ?_
          rintro e w' ⟨rfl, rfl⟩
          go_wp2
          go_round
          case rel => exact ⟨k + 1, by omega, by go_num, H.out, HN.out⟩
          case measure => simp [intOf]; omega
        · obtain ⟨b', o', heq, hcp⟩ := HX.out (k-1) (by omega)
          obtain ⟨rfl, rfl⟩ : b = b' ∧ o = o' := by simpa using heq
          have hidx : ((k:Int) - 1).toNat = k - 1 := by omega
          have hF : Hid (xs.getD k 0 ≤ xs.getD (k-1) 0 → risB xs = false) := fun h => decide_eq_false fun hr => by have := hr k hlt (by omega); omega
          have HN : Hid (xs.getD (k-1) 0 < xs.getD k 0 → ∀ j : Nat, j < k + 1 → (0 < j → xs.getD (j-1) 0 < xs.getD j 0)) := by
            intro h j hj h0
            by_cases e : j = k
            · subst e; exact h
            · exact HA2.out j (by omega) h0
          clear heq
          generalize xs.getD k 0 = z at *
          generalize xs.getD (k-1) 0 = y at *
          by_cases hzy : z ≤ y
          · have HF' := Lib.hid (hF.out hzy)
            go_wp2_with fail
            refine HC.out.mono ?_
            rintro e w' ⟨rfl, rfl⟩
            go_wp2
            go_ret
            exact ⟨ret_bool (by rw [HF'.out, Bool.and_false]), rfl⟩
          · have HN' := Lib.hid (HN.out (by omega))
            go_wp2_with fail
            refine HC.out.mono ?_
            rintro e w' ⟨rfl, rfl⟩
            go_wp2
            go_round
            case rel => exact ⟨k + 1, by omega, by go_num, H.out, HN'.out⟩
            case measure => simp [intOf]; omega
    · obtain rfl : k = xs.length := by omega
      have H := Lib.hid (inB_true' HA1.out)
      have HT : Hid (risB xs = true) := decide_eq_true HA2.out
      go_wp2
      go_ret
      exact ⟨ret_bool (by rw [H.out, HT.out]; rfl), rfl⟩

set_option maxHeartbeats 1000000 in
theorem set_any (p : Int) (v : Value) (xs : List Int) (w : World) (h : Ints w v xs) :
    Calls Try.prog 34 #[.int .i64 p, v] w fun e w' => e = .returned (.bool (setB p xs)) ∧ w = w' := by
  have HP := Lib.hid (prime_any p w)
  cases hp : isP p with
  | false =>
    rw [hp] at HP
    have HS : Hid (setB p xs = false) := by unfold setB okB; rw [hp]; rfl
    clear hp
    go_enter Try.func34, Try.ntmps34
    go_wp2_with fail
    refine HP.out.mono ?_
    rintro e w' ⟨rfl, rfl⟩
    go_wp2
    go_ret
    exact ⟨ret_bool HS.out.symm, rfl⟩
  | true =>
    rw [hp] at HP
    have HS : Hid (setB p xs = (inB p.toNat xs && risB xs)) := by unfold setB okB; rw [hp]; rfl
    obtain ⟨q, rfl⟩ : ∃ q : Nat, p = q := ⟨p.toNat, by have := isP_cases hp; omega⟩
    have hq : isPn q := by have := isP_cases hp; unfold isPn; omega
    have HR := Lib.hid (rSet_any q v xs w hq h)
    clear hp h hq
    go_enter Try.func34, Try.ntmps34
    go_wp2_with fail
    refine HP.out.mono ?_
    rintro e w' ⟨rfl, rfl⟩
    go_wp2_with fail
    refine HR.out.mono ?_
    rintro e w' ⟨rfl, rfl⟩
    go_wp2
    go_ret
    exact ⟨ret_bool HS.out.symm, rfl⟩
end Go.Proofs.Ytllokfkagneneaa
