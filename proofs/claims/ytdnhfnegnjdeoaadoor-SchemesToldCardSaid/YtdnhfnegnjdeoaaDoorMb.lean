/- the program's List and the reference's -/
import Derived.Test.YtdnhfnegnjdeoaaDoorMa
namespace Go.Proofs.YtdnhfnegnjdeoaaDoor
open Go.RowKit

theorem Tryd.info24 : (Tryd.prog.info? 24).map (fun i => (i.zero, i.size, i.bytes)) = some (some (.agg #[.int .i64 0, .int .i64 0, .int .i64 0, .int .i64 0]), 4, 32) := by kernel_rfl

set_option maxRecDepth 100000 in
set_option maxHeartbeats 4000000 in
theorem List_any (n : Nat) (w : World) (h4 : 4 ≤ n) (h30 : n ≤ 30) :
    Calls Tryd.prog 46 #[.int .i64 n] w fun e w' => ∃ v, e = .returned (.tuple #[v, .int .i64 0]) ∧ Own4 w' w.heap.size 24 v (LN n) ∧ Below w.heap.size w w' := by
  obtain ⟨i0, hi0, hz0, hz1, hz2⟩ := info_parts Tryd.info24
  have HR : Hid (∀ k l m : Nat, AskN n k l m → ∀ w, Calls Tryd.prog 69 #[num4 n k l m] w fun e w' => e = .returned (.int .i64 (reaF n k l m)) ∧ Below w.heap.size w w') := Lib.hid fun k l m ha w =>
    (reason_exact n k l m w ha).mono fun _ _ ⟨⟨z, hz, he⟩, hb⟩ => ⟨by rw [he, reaF_one ha hz], hb⟩
  go_enter Tryd.func46, Tryd.ntmps46
  go_wp2
  go_loopw [4, 5] (fun s i wr => ∃ K : Nat, 1 ≤ K ∧ K ≤ n - 1 ∧ i = .int .i64 K ∧ Own4 wr w.heap.size 24 s (kL n (K - 1)) ∧ Below w.heap.size w wr) (fun _ i _ => n - (intOf i).toNat)
  case atStart => exact ⟨1, by omega, by omega, rfl, World.ownsRow_nil _ _ _ _, Below.refl _ _⟩
  case round =>
    obtain ⟨K, hK1, hKn, rfl, ho, hb⟩ := hrel
    have HO := Lib.hid ho
    have HB := Lib.hid hb
    obtain ⟨sa, sc, es⟩ := owns_form ho
    generalize hlen : (kL n (K - 1)).length = len at es
    subst es
    clear ho hb
    by_cases hlt : K ≤ n - 2
    · have hK2 : (K:Int) ≤ (n:Int) - 2 := by omega
      have HUp := Lib.hid (kL_up n hK1)
      have HLk := Lib.hid (kL_length n (K - 1) (by omega))
      have HO' : Hid (Own4 wr w.heap.size 24 (.slice sa len sc) (kL n (K - 1) ++ lL n K 0)) := Lib.hid (by rw [lL, List.append_nil]; exact HO.out)
      clear HO
      go_wp2
      go_loopw [4, 22] (fun s i wr => ∃ l : Nat, l ≤ K ∧ i = .int .i64 l ∧ Own4 wr w.heap.size 24 s (kL n (K - 1) ++ lL n K l) ∧ Below w.heap.size w wr) (fun _ i _ => K - (intOf i).toNat)
      case atStart => exact ⟨0, Nat.zero_le _, rfl, HO'.out, HB.out⟩
      case round =>
        obtain ⟨l, hl, rfl, ho, hb⟩ := hrel
        have HO := Lib.hid ho
        have HB := Lib.hid hb
        obtain ⟨sa, sc, es⟩ := owns_form ho
        generalize hlen2 : (kL n (K - 1) ++ lL n K l).length = len2 at es
        subst es
        clear ho hb
        by_cases hll : l < K
        · have HLl : Hid ((kL n (K - 1) ++ lL n K l).length ≤ 30 * 930 + 30 * 31) := Lib.hid (by
            rw [List.length_append]
            have := HLk.out
            have := lL_length n K (by omega) l
            omega)
          have HNx : Hid (kL n (K - 1) ++ lL n K (l + 1) = kL n (K - 1) ++ lL n K l ++ mL n K l (K + 1)) := Lib.hid (by rw [lL, List.append_assoc])
          have HO' : Hid (Own4 wr w.heap.size 24 (.slice sa len2 sc) (kL n (K - 1) ++ lL n K l ++ mL n K l 0)) := Lib.hid (by rw [mL, List.append_nil]; exact HO.out)
          have HNxl : Hid (∀ s wr, Own4 wr w.heap.size 24 s (kL n (K - 1) ++ lL n K l ++ mL n K l (K + 1)) → Own4 wr w.heap.size 24 s (kL n (K - 1) ++ lL n K (l + 1))) := Lib.hid fun s wr h => by rw [HNx.out]; exact h
          clear HO hlen2 HNx
          generalize kL n (K - 1) ++ lL n K l = pre at *
          go_wp2
          go_loopw [4, 27] (fun s i wr => ∃ m : Nat, m ≤ K + 1 ∧ i = .int .i64 m ∧ Own4 wr w.heap.size 24 s (pre ++ mL n K l m) ∧ Below w.heap.size w wr) (fun _ i _ => K + 1 - (intOf i).toNat)
          case atStart => exact ⟨0, Nat.zero_le _, rfl, HO'.out, HB.out⟩
          case round =>
            obtain ⟨m, hm, rfl, ho, hb⟩ := hrel
            have HO := Lib.hid ho
            have HB := Lib.hid hb
            obtain ⟨sa, sc, es⟩ := owns_form ho
            generalize hlen3 : (pre ++ mL n K l m).length = len3 at es
            have HL3 : Hid (len3 ≤ 30000) := Lib.hid (by rw [← hlen3, List.length_append]; have := HLl.out; have := mL_length n K l m; omega)
            have HLe := Lib.hid hlen3
            subst es
            clear ho hb hlen3
            by_cases hmm : m < K + 1
            · have hask := askN_mk h4 h30 hK1 hlt hll hmm
              have HC := Lib.hid (HR.out K l m hask)
              have HNm : Hid (mL n K l (m + 1) = mL n K l m ++ (if reaF n K l m = 0 then [((n:Int), (K:Int), (l:Int), (m:Int))] else [])) := Lib.hid rfl
              generalize reaF n K l m = z at *
              have HBx := Lib.hid (HB.out.alloc HB.out.size (.cells #[.int .i64 n, .int .i64 K, .int .i64 l, .int .i64 m] 24))
              have HOx := Lib.hid (HO.out.below ((Below.refl wr.heap.size wr).alloc (Nat.le_refl _) (.cells #[.int .i64 n, .int .i64 K, .int .i64 l, .int .i64 m] 24)) (Nat.le_refl _))
              have QX := Lib.hid (Q4.new wr 24 n K l m)
              unfold num4 at HC
              clear hask
              go_wp2_with fail
              refine (HC.out _).mono ?_
              rintro e w1 ⟨rfl, hb1⟩
              have Q2 := QX.out.below hb1
              have HB1 := Lib.hid (HBx.out.trans (hb1.mono HBx.out.size))
              have HO1 := Lib.hid (HOx.out.below hb1 (Nat.le_refl _))
              clear hb1 QX HBx HOx HB HO
              have q0 := Q2.c0
              have q1 := Q2.c1
              have q2 := Q2.c2
              have q3 := Q2.c3
              by_cases hz : z = 0
              · rw [if_pos hz] at HNm
                have hz' : (z == 0) = true := by simp [hz]

                clear hz
                have HOa : Hid ((w1.alloc (.cells #[.int .i64 n, .int .i64 K, .int .i64 l, .int .i64 m] 24)).ownsRow w.heap.size 24 4 (.slice sa len3 sc) len3 (flat4 (pre ++ mL n K l m))) := Lib.hid (by
                  have h := HO1.out
                  unfold Own4 at h
                  rw [HLe.out] at h
                  exact h.alloc _)
                go_wp2_with (at_builtin; refine wpList_append_own _ rfl _ _ 59 rfl w.heap.size 24 i0 (.agg #[.int .i64 0, .int .i64 0, .int .i64 0, .int .i64 0]) 4 32 Tryd.underlying59 hi0 hz0 hz1 hz2 rfl (by decide) _ _ (flat4 (pre ++ mL n K l m)) rfl HOa.out ⟨w1.heap.size, 0, none⟩ 1 1 (c4 ((n:Int), (K:Int), (l:Int), (m:Int))) rfl rfl (newFour _ _ _ _ _ _) (oneFour _) (by have := HL3.out; unfold maxLen; omega) (by have := HL3.out; omega) (by have := HB1.out.size; simp; omega) ?_)
                intro v' w2 hown' hgrow _
                have HO2 : Hid (Own4 w2 w.heap.size 24 v' (pre ++ mL n K l (m + 1))) := Lib.hid (by
                  rw [HNm.out, ← List.append_assoc]
                  exact Own4.step hown' (by rw [HLe.out]))
                have HB2 : Hid (Below w.heap.size w w2) := Lib.hid ((HB1.out.alloc HB1.out.size (.cells #[.int .i64 n, .int .i64 K, .int .i64 l, .int .i64 m] 24)).grown hgrow (by have := HB1.out.size; simp; omega) (fun k hk => (HOa.out.lt k hk).1))
                obtain ⟨va, vc, rfl⟩ := owns_form hown'
                clear hown' hgrow HOa HO1 HB1
                go_wp2
                go_roundw
                case rel => exact ⟨m + 1, by omega, by go_num, HO2.out, HB2.out⟩
                case measure => simp [intOf]; omega
              · rw [if_neg hz, List.append_nil] at HNm
                have hz' : (z == 0) = false := by simp [hz]

                clear hz
                have HO2 : Hid (Own4 w1 w.heap.size 24 (.slice sa len3 sc) (pre ++ mL n K l (m + 1))) := Lib.hid (by rw [HNm.out]; exact HO1.out)
                go_wp2
                go_roundw
                case rel => exact ⟨m + 1, by omega, by go_num, HO2.out, HB1.out⟩
                case measure => simp [intOf]; omega
            · obtain rfl : m = K + 1 := by omega
              have HO2 := Lib.hid (HNxl.out _ _ HO.out)
              go_wp2
              go_roundw
              case rel => exact ⟨l + 1, by omega, by go_num, HO2.out, HB.out⟩
              case measure => simp [intOf]; omega
        · obtain rfl : l = K := by omega
          have HO2 : Hid (Own4 wr w.heap.size 24 (.slice sa len2 sc) (kL n (l + 1 - 1))) := Lib.hid (by rw [Nat.add_sub_cancel, HUp.out]; exact HO.out)
          go_wp2
          go_roundw
          case rel => exact ⟨l + 1, by omega, by omega, by go_num, HO2.out, HB.out⟩
          case measure => simp [intOf]; omega
    · obtain rfl : K = n - 1 := by omega
      have HF : Hid (Own4 wr w.heap.size 24 (.slice sa len sc) (LN n)) := Lib.hid HO.out
      have hc1 : ((n - 1 : Nat) : Int) = (n:Int) - 1 := by omega
      go_wp2
      go_ret2
      exact ⟨_, rfl, HF.out, HB.out⟩

theorem Tryd.info32 : (Tryd.prog.info? 32).map (fun i => (i.zero, i.size, i.bytes)) = some (some (.agg #[.int .i64 0, .int .i64 0, .int .i64 0, .int .i64 0]), 4, 32) := by kernel_rfl

set_option maxRecDepth 100000 in
set_option maxHeartbeats 4000000 in
theorem rList_any (n : Nat) (w : World) (h4 : 4 ≤ n) (h30 : n ≤ 30) :
    Calls Tryd.prog 48 #[.int .i64 n] w fun e w' => ∃ v, e = .returned v ∧ Own4 w' w.heap.size 32 v (LN n) ∧ Below w.heap.size w w' := by
  obtain ⟨i0, hi0, hz0, hz1, hz2⟩ := info_parts Tryd.info32
  have HR : Hid (∀ k l m : Nat, AskN n k l m → ∀ w, Calls Tryd.prog 31 #[num4 n k l m] w fun e w' => e = .returned (reaV (reaF n k l m)) ∧ Below w.heap.size w w') := Lib.hid fun k l m ha w =>
    (rReason_exact n k l m w ha).mono fun _ _ ⟨⟨z, hz, he⟩, hb⟩ => ⟨by rw [he, reaF_one ha hz], hb⟩
  go_enter Tryd.func48, Tryd.ntmps48
  go_wp2
  go_loopw [3, 4] (fun s i wr => ∃ K : Nat, 1 ≤ K ∧ K ≤ n - 1 ∧ i = .int .i64 K ∧ Own4 wr w.heap.size 32 s (kL n (K - 1)) ∧ Below w.heap.size w wr) (fun _ i _ => n - (intOf i).toNat)
  case atStart => exact ⟨1, by omega, by omega, rfl, World.ownsRow_nil _ _ _ _, Below.refl _ _⟩
  case round =>
    obtain ⟨K, hK1, hKn, rfl, ho, hb⟩ := hrel
    have HO := Lib.hid ho
    have HB := Lib.hid hb
    obtain ⟨sa, sc, es⟩ := owns_form ho
    generalize hlen : (kL n (K - 1)).length = len at es
    subst es
    clear ho hb
    by_cases hlt : K ≤ n - 2
    · have hK2 : (K:Int) ≤ (n:Int) - 2 := by omega
      have HUp := Lib.hid (kL_up n hK1)
      have HLk := Lib.hid (kL_length n (K - 1) (by omega))
      have HO' : Hid (Own4 wr w.heap.size 32 (.slice sa len sc) (kL n (K - 1) ++ lL n K 0)) := Lib.hid (by rw [lL, List.append_nil]; exact HO.out)
      clear HO
      go_wp2
      go_loopw [3, 17] (fun s i wr => ∃ l : Nat, l ≤ K ∧ i = .int .i64 l ∧ Own4 wr w.heap.size 32 s (kL n (K - 1) ++ lL n K l) ∧ Below w.heap.size w wr) (fun _ i _ => K - (intOf i).toNat)
      case atStart => exact ⟨0, Nat.zero_le _, rfl, HO'.out, HB.out⟩
      case round =>
        obtain ⟨l, hl, rfl, ho, hb⟩ := hrel
        have HO := Lib.hid ho
        have HB := Lib.hid hb
        obtain ⟨sa, sc, es⟩ := owns_form ho
        generalize hlen2 : (kL n (K - 1) ++ lL n K l).length = len2 at es
        subst es
        clear ho hb
        by_cases hll : l < K
        · have HLl : Hid ((kL n (K - 1) ++ lL n K l).length ≤ 30 * 930 + 30 * 31) := Lib.hid (by
            rw [List.length_append]
            have := HLk.out
            have := lL_length n K (by omega) l
            omega)
          have HNx : Hid (kL n (K - 1) ++ lL n K (l + 1) = kL n (K - 1) ++ lL n K l ++ mL n K l (K + 1)) := Lib.hid (by rw [lL, List.append_assoc])
          have HO' : Hid (Own4 wr w.heap.size 32 (.slice sa len2 sc) (kL n (K - 1) ++ lL n K l ++ mL n K l 0)) := Lib.hid (by rw [mL, List.append_nil]; exact HO.out)
          have HNxl : Hid (∀ s wr, Own4 wr w.heap.size 32 s (kL n (K - 1) ++ lL n K l ++ mL n K l (K + 1)) → Own4 wr w.heap.size 32 s (kL n (K - 1) ++ lL n K (l + 1))) := Lib.hid fun s wr h => by rw [HNx.out]; exact h
          clear HO hlen2 HNx
          generalize kL n (K - 1) ++ lL n K l = pre at *
          go_wp2
          go_loopw [3, 22] (fun s i wr => ∃ m : Nat, m ≤ K + 1 ∧ i = .int .i64 m ∧ Own4 wr w.heap.size 32 s (pre ++ mL n K l m) ∧ Below w.heap.size w wr) (fun _ i _ => K + 1 - (intOf i).toNat)
          case atStart => exact ⟨0, Nat.zero_le _, rfl, HO'.out, HB.out⟩
          case round =>
            obtain ⟨m, hm, rfl, ho, hb⟩ := hrel
            have HO := Lib.hid ho
            have HB := Lib.hid hb
            obtain ⟨sa, sc, es⟩ := owns_form ho
            generalize hlen3 : (pre ++ mL n K l m).length = len3 at es
            have HL3 : Hid (len3 ≤ 30000) := Lib.hid (by rw [← hlen3, List.length_append]; have := HLl.out; have := mL_length n K l m; omega)
            have HLe := Lib.hid hlen3
            subst es
            clear ho hb hlen3
            by_cases hmm : m < K + 1
            · have hask := askN_mk h4 h30 hK1 hlt hll hmm
              have HC := Lib.hid (HR.out K l m hask)
              have HNm : Hid (mL n K l (m + 1) = mL n K l m ++ (if reaF n K l m = 0 then [((n:Int), (K:Int), (l:Int), (m:Int))] else [])) := Lib.hid rfl
              generalize reaF n K l m = z at *
              have HBx := Lib.hid (HB.out.alloc HB.out.size (.cells #[.int .i64 n, .int .i64 K, .int .i64 l, .int .i64 m] 32))
              have HOx := Lib.hid (HO.out.below ((Below.refl wr.heap.size wr).alloc (Nat.le_refl _) (.cells #[.int .i64 n, .int .i64 K, .int .i64 l, .int .i64 m] 32)) (Nat.le_refl _))
              have QX := Lib.hid (Q4.new wr 32 n K l m)
              unfold num4 at HC
              clear hask
              go_wp2_with fail
              refine (HC.out _).mono ?_
              rintro e w1 ⟨rfl, hb1⟩
              have Q2 := QX.out.below hb1
              have HB1 := Lib.hid (HBx.out.trans (hb1.mono HBx.out.size))
              have HO1 := Lib.hid (HOx.out.below hb1 (Nat.le_refl _))
              clear hb1 QX HBx HOx HB HO
              have q0 := Q2.c0
              have q1 := Q2.c1
              have q2 := Q2.c2
              have q3 := Q2.c3
              by_cases hz : z = 0
              · rw [if_pos hz] at HNm
                have hz' : (z == 0) = true := by simp [hz]
                rw [show reaV z = .tuple #[.int .i64 0, .int .i64 4] by rw [reaV, if_pos hz]]
                clear hz
                have HOa : Hid ((w1.alloc (.cells #[.int .i64 n, .int .i64 K, .int .i64 l, .int .i64 m] 32)).ownsRow w.heap.size 32 4 (.slice sa len3 sc) len3 (flat4 (pre ++ mL n K l m))) := Lib.hid (by
                  have h := HO1.out
                  unfold Own4 at h
                  rw [HLe.out] at h
                  exact h.alloc _)
                go_wp2_with (at_builtin; refine wpList_append_own _ rfl _ _ 63 rfl w.heap.size 32 i0 (.agg #[.int .i64 0, .int .i64 0, .int .i64 0, .int .i64 0]) 4 32 Tryd.underlying63 hi0 hz0 hz1 hz2 rfl (by decide) _ _ (flat4 (pre ++ mL n K l m)) rfl HOa.out ⟨w1.heap.size, 0, none⟩ 1 1 (c4 ((n:Int), (K:Int), (l:Int), (m:Int))) rfl rfl (newFour _ _ _ _ _ _) (oneFour _) (by have := HL3.out; unfold maxLen; omega) (by have := HL3.out; omega) (by have := HB1.out.size; simp; omega) ?_)
                intro v' w2 hown' hgrow _
                have HO2 : Hid (Own4 w2 w.heap.size 32 v' (pre ++ mL n K l (m + 1))) := Lib.hid (by
                  rw [HNm.out, ← List.append_assoc]
                  exact Own4.step hown' (by rw [HLe.out]))
                have HB2 : Hid (Below w.heap.size w w2) := Lib.hid ((HB1.out.alloc HB1.out.size (.cells #[.int .i64 n, .int .i64 K, .int .i64 l, .int .i64 m] 32)).grown hgrow (by have := HB1.out.size; simp; omega) (fun k hk => (HOa.out.lt k hk).1))
                obtain ⟨va, vc, rfl⟩ := owns_form hown'
                clear hown' hgrow HOa HO1 HB1
                go_wp2
                go_roundw
                case rel => exact ⟨m + 1, by omega, by go_num, HO2.out, HB2.out⟩
                case measure => simp [intOf]; omega
              · rw [if_neg hz, List.append_nil] at HNm
                have hz' : (z == 0) = false := by simp [hz]
                rw [show reaV z = .tuple #[.int .i64 z, .int .i64 0] by rw [reaV, if_neg hz]]
                clear hz
                have HO2 : Hid (Own4 w1 w.heap.size 32 (.slice sa len3 sc) (pre ++ mL n K l (m + 1))) := Lib.hid (by rw [HNm.out]; exact HO1.out)
                go_wp2
                go_roundw
                case rel => exact ⟨m + 1, by omega, by go_num, HO2.out, HB1.out⟩
                case measure => simp [intOf]; omega
            · obtain rfl : m = K + 1 := by omega
              have HO2 := Lib.hid (HNxl.out _ _ HO.out)
              go_wp2
              go_roundw
              case rel => exact ⟨l + 1, by omega, by go_num, HO2.out, HB.out⟩
              case measure => simp [intOf]; omega
        · obtain rfl : l = K := by omega
          have HO2 : Hid (Own4 wr w.heap.size 32 (.slice sa len2 sc) (kL n (l + 1 - 1))) := Lib.hid (by rw [Nat.add_sub_cancel, HUp.out]; exact HO.out)
          go_wp2
          go_roundw
          case rel => exact ⟨l + 1, by omega, by omega, by go_num, HO2.out, HB.out⟩
          case measure => simp [intOf]; omega
    · obtain rfl : K = n - 1 := by omega
      have HF : Hid (Own4 wr w.heap.size 32 (.slice sa len sc) (LN n)) := Lib.hid HO.out
      have hc1 : ((n - 1 : Nat) : Int) = (n:Int) - 1 := by omega
      go_wp2
      go_ret
      exact ⟨_, rfl, HF.out, HB.out⟩

theorem List_bad (n : Int) (w : World) (h : n < 4 ∨ 30 < n) : Calls Tryd.prog 46 #[.int .i64 n] w fun e w' => e = .returned (.tuple #[.slice none 0 0, .int .i64 2]) ∧ w = w' := by
  by_cases h4 : n < 4
  · go_enter Tryd.func46, Tryd.ntmps46
    go_wp2
    go_ret2
    exact ⟨rfl, rfl⟩
  · have h30 : 30 < n := by omega
    go_enter Tryd.func46, Tryd.ntmps46
    go_wp2
    go_ret2
    exact ⟨rfl, rfl⟩
end Go.Proofs.YtdnhfnegnjdeoaaDoor
