/- the reference's Four -/
import Derived.Test.YtopmdmafameknaaFc
namespace Go.Proofs.Ytopmdmafameknaa
open Go.RowKit

/-- From x on, by twos, to 19. -/
def stp (G : Nat → List (List Nat)) : Nat → Nat → List (List Nat)
  | 0, _ => []
  | f + 1, x => if x ≤ 19 then G x ++ stp G f (x + 2) else []
def fs (x : Nat) : Nat := (23 - x) / 2
theorem stp_more {G : Nat → List (List Nat)} {x : Nat} (h : x ≤ 19) : stp G (fs x) x = G x ++ stp G (fs (x + 2)) (x + 2) := by
  have h1 : fs x = fs (x + 2) + 1 := by unfold fs; omega
  rw [h1]
  show (if x ≤ 19 then _ else _) = _
  rw [if_pos h]
theorem stp_end {G : Nat → List (List Nat)} {x : Nat} (h : ¬ x ≤ 19) (h2 : x ≤ 21) : stp G (fs x) x = [] := by
  obtain ⟨f, hf⟩ : ∃ f, fs x = f + 1 := ⟨fs x - 1, by unfold fs; omega⟩
  rw [hf]
  show (if x ≤ 19 then _ else _) = _
  rw [if_neg h]
def rD (n a b c d : Nat) : List (List Nat) := if a * a + b * b + c * c + d * d = 4 * n then [[a, b, c, d]] else []
def rC (n a b c : Nat) : List (List Nat) := stp (rD n a b c) (fs c) c
def rB (n a b : Nat) : List (List Nat) := stp (rC n a b) (fs b) b
def rA (n a : Nat) : List (List Nat) := stp (rB n a) (fs a) a
theorem ref_chk : ((List.range 101).all fun n => n == 0 || (stp (rA n) (fs 1) 1 == fourL n)) = true := by decide +kernel
theorem ref_four {n : Nat} (h1 : 1 ≤ n) (h2 : n ≤ 100) : stp (rA n) (fs 1) 1 = fourL n := by
  have h := List.all_eq_true.1 ref_chk n (List.mem_range.2 (by omega))
  simp only [Bool.or_eq_true, beq_iff_eq] at h
  exact h.resolve_left (by omega)

set_option maxRecDepth 20000 in
set_option maxHeartbeats 4000000 in
theorem RFour_any (n : Nat) (h1 : 1 ≤ n) (h2 : n ≤ 100) (w : World) : Calls Try.prog 52 #[.int .i64 (n : Nat)] w fun e w' => ∃ v, e = .returned v ∧ RowsF w' v (fourL n) ∧ Below w.heap.size w w' := by
  have HT := Lib.hid (ref_four h1 h2)
  have hTl := fourL_len h1 h2
  obtain ⟨i43, hi, hz0, hz1, hz2⟩ := info_parts Try.info43
  go_enter Try.func52, Try.ntmps52
  go_wp2_with fail
  go_loopw [3, 4] (fun v i wr => ∃ (x : Nat) (R : List (List Nat)), x ≤ 21 ∧ i = .int .i64 (x : Nat) ∧ wr.ownsRow w.heap.size 43 4 v R.length (flat4 R) ∧ R ++ stp (rA n) (fs x) x = fourL n ∧ Below w.heap.size w wr) (fun _ i _ => 30 - (intOf i).toNat)
  case atStart => exact ⟨1, [], by omega, rfl, World.ownsRow_nil _ _ _ _, HT.out, Below.refl _ _⟩
  case round =>
    rename World => w1
    obtain ⟨a, R1, hxa, rfl, ho, ht, hb⟩ := hrel
    obtain ⟨ao, vc, rfl⟩ := owns_form ho
    have HO1 := Lib.hid ho
    have HR1 := Lib.hid ht
    have HB1 := Lib.hid hb
    clear ho ht hb
    by_cases hla : a ≤ 19
    · obtain ⟨T1, hT⟩ : ∃ T, T = R1 ++ rA n a := ⟨_, rfl⟩
      have HN1 : Hid (T1 ++ stp (rA n) (fs (a + 2)) (a + 2) = fourL n) := Lib.hid (by rw [hT, List.append_assoc, ← stp_more hla]; exact HR1.out)
      have hT1 : T1.length ≤ 20 := by
        have h9 := congrArg List.length HN1.out
        rw [List.length_append] at h9
        omega
      have HS1 : Hid (R1 ++ stp (rB n a) (fs a) a = T1) := Lib.hid (by rw [hT]; rfl)
      clear hT HR1
      go_wp2_with fail
      go_loopw [3, 5] (fun v i wr => ∃ (x : Nat) (R : List (List Nat)), x ≤ 21 ∧ i = .int .i64 (x : Nat) ∧ wr.ownsRow w.heap.size 43 4 v R.length (flat4 R) ∧ R ++ stp (rB n a) (fs x) x = T1 ∧ Below w.heap.size w wr) (fun _ i _ => 30 - (intOf i).toNat)
      case atStart => exact ⟨a, R1, by omega, rfl, HO1.out, HS1.out, HB1.out⟩
      case round =>
        rename World => w2
        obtain ⟨b, R2, hxb, rfl, ho, ht, hb⟩ := hrel
        obtain ⟨ao, vc, rfl⟩ := owns_form ho
        have HO2 := Lib.hid ho
        have HR2 := Lib.hid ht
        have HB2 := Lib.hid hb
        clear ho ht hb
        by_cases hlb : b ≤ 19
        · obtain ⟨T2, hT⟩ : ∃ T, T = R2 ++ rB n a b := ⟨_, rfl⟩
          have HN2 : Hid (T2 ++ stp (rB n a) (fs (b + 2)) (b + 2) = T1) := Lib.hid (by rw [hT, List.append_assoc, ← stp_more hlb]; exact HR2.out)
          have hT2 : T2.length ≤ 20 := by
            have h9 := congrArg List.length HN2.out
            rw [List.length_append] at h9
            omega
          have HS2 : Hid (R2 ++ stp (rC n a b) (fs b) b = T2) := Lib.hid (by rw [hT]; rfl)
          clear hT HR2
          go_wp2_with fail
          go_loopw [3, 6] (fun v i wr => ∃ (x : Nat) (R : List (List Nat)), x ≤ 21 ∧ i = .int .i64 (x : Nat) ∧ wr.ownsRow w.heap.size 43 4 v R.length (flat4 R) ∧ R ++ stp (rC n a b) (fs x) x = T2 ∧ Below w.heap.size w wr) (fun _ i _ => 30 - (intOf i).toNat)
          case atStart => exact ⟨b, R2, by omega, rfl, HO2.out, HS2.out, HB2.out⟩
          case round =>
            rename World => w3
            obtain ⟨c, R3, hxc, rfl, ho, ht, hb⟩ := hrel
            obtain ⟨ao, vc, rfl⟩ := owns_form ho
            have HO3 := Lib.hid ho
            have HR3 := Lib.hid ht
            have HB3 := Lib.hid hb
            clear ho ht hb
            by_cases hlc : c ≤ 19
            · obtain ⟨T3, hT⟩ : ∃ T, T = R3 ++ rC n a b c := ⟨_, rfl⟩
              have HN3 : Hid (T3 ++ stp (rC n a b) (fs (c + 2)) (c + 2) = T2) := Lib.hid (by rw [hT, List.append_assoc, ← stp_more hlc]; exact HR3.out)
              have hT3 : T3.length ≤ 20 := by
                have h9 := congrArg List.length HN3.out
                rw [List.length_append] at h9
                omega
              have HS3 : Hid (R3 ++ stp (rD n a b c) (fs c) c = T3) := Lib.hid (by rw [hT]; rfl)
              clear hT HR3
              go_wp2_with fail
              go_loopw [3, 7] (fun v i wr => ∃ (x : Nat) (R : List (List Nat)), x ≤ 21 ∧ i = .int .i64 (x : Nat) ∧ wr.ownsRow w.heap.size 43 4 v R.length (flat4 R) ∧ R ++ stp (rD n a b c) (fs x) x = T3 ∧ Below w.heap.size w wr) (fun _ i _ => 30 - (intOf i).toNat)
              case atStart => exact ⟨c, R3, by omega, rfl, HO3.out, HS3.out, HB3.out⟩
              case round =>
                rename World => w4
                obtain ⟨d, R4, hxd, rfl, ho, ht, hb⟩ := hrel
                obtain ⟨ao, vc, rfl⟩ := owns_form ho
                have HO4 := Lib.hid ho
                have HR4 := Lib.hid ht
                have HB4 := Lib.hid hb
                clear ho ht hb
                by_cases hld : d ≤ 19
                · have HN : Hid ((R4 ++ rD n a b c d) ++ stp (rD n a b c) (fs (d + 2)) (d + 2) = T3) := Lib.hid (by rw [List.append_assoc, ← stp_more hld]; exact HR4.out)
                  have hRl : (R4 ++ rD n a b c d).length ≤ 20 := by
                    have h9 := congrArg List.length HN.out
                    rw [List.length_append] at h9
                    omega
                  obtain ⟨sa, hsa⟩ : ∃ s, s = a * a := ⟨_, rfl⟩
                  have hya : (a : Int) * (a : Int) = (sa : Nat) := by rw [hsa]; simp
                  have hma : sa ≤ 361 := by rw [hsa]; exact Nat.mul_le_mul hla hla
                  obtain ⟨sb, hsb⟩ : ∃ s, s = b * b := ⟨_, rfl⟩
                  have hyb : (b : Int) * (b : Int) = (sb : Nat) := by rw [hsb]; simp
                  have hmb : sb ≤ 361 := by rw [hsb]; exact Nat.mul_le_mul hlb hlb
                  obtain ⟨sc, hsc⟩ : ∃ s, s = c * c := ⟨_, rfl⟩
                  have hyc : (c : Int) * (c : Int) = (sc : Nat) := by rw [hsc]; simp
                  have hmc : sc ≤ 361 := by rw [hsc]; exact Nat.mul_le_mul hlc hlc
                  obtain ⟨sd, hsd⟩ : ∃ s, s = d * d := ⟨_, rfl⟩
                  have hyd : (d : Int) * (d : Int) = (sd : Nat) := by rw [hsd]; simp
                  have hmd : sd ≤ 361 := by rw [hsd]; exact Nat.mul_le_mul hld hld
                  have HrD : Hid (rD n a b c d = if sa + sb + sc + sd = 4 * n then [[a, b, c, d]] else []) := Lib.hid (by rw [hsa, hsb, hsc, hsd]; rfl)
                  clear hsa hsb hsc hsd HR4
                  by_cases heq : sa + sb + sc + sd = 4 * n
                  · have hI : (((sa : Int) + (sb : Int) + (sc : Int) + (sd : Int)) == 4 * (n : Int)) = true := beq_iff_eq.2 (by omega)
                    rw [HrD.out, if_pos heq] at HN hRl
                    have hR9 : R4.length + 1 ≤ maxLen := by simp at hRl; unfold maxLen; omega
                    have hR8 : R4.length ≤ 20 := by simp at hRl; omega
                    have hws := HB4.out.size
                    have HNw : Hid (∀ j u, (#[Value.int .i64 (a : Nat), .int .i64 (b : Nat), .int .i64 (c : Nat), .int .i64 (d : Nat)]).toList[j]? = some u → (w4.alloc (.cells #[.int .i64 (a : Nat), .int .i64 (b : Nat), .int .i64 (c : Nat), .int .i64 (d : Nat)] 43)).cell? ((⟨w4.heap.size, 0, none⟩ : Addr).add j) = some u) := Lib.hid (fun j u hj => by
                      rw [Addr.add_lit, Nat.zero_add, (Blk.new 43 w4 #[.int .i64 (a : Nat), .int .i64 (b : Nat), .int .i64 (c : Nat), .int .i64 (d : Nat)]).cell]
                      simpa using hj)
                    have H1 : Hid (∀ u ∈ (#[Value.int .i64 (a : Nat), .int .i64 (b : Nat), .int .i64 (c : Nat), .int .i64 (d : Nat)]).toList, u.oneCell' = true) := Lib.hid (fun u hu => by
                      simp at hu
                      rcases hu with rfl | rfl | rfl | rfl <;> rfl)
                    clear heq
                    go_wp2_with (at_builtin; refine wpList_append_own _ rfl _ _ 51 rfl w.heap.size 43 i43 (.agg #[.int .i64 0, .int .i64 0, .int .i64 0, .int .i64 0]) 4 32 Try.underlying51 hi hz0 hz1 hz2 rfl (by decide) _ _ (flat4 R4) rfl (HO4.out.alloc _) ⟨w4.heap.size, 0, none⟩ 1 1 (#[Value.int .i64 (a : Nat), .int .i64 (b : Nat), .int .i64 (c : Nat), .int .i64 (d : Nat)]).toList rfl rfl HNw.out H1.out hR9 (by omega) (by simp; omega) ?_; intro v7 w7 hown7 hg7 _; obtain ⟨a7, c7, rfl⟩ := owns_form hown7)
                    have HO7 : Hid (w7.ownsRow w.heap.size 43 4 (.slice a7 (R4.length + 1) c7) (R4 ++ [[a, b, c, d]]).length (flat4 (R4 ++ [[a, b, c, d]]))) := Lib.hid (by
                      rw [flat4_snoc, List.length_append]; exact hown7)
                    have HB7 : Hid (Below w.heap.size w w7) := Lib.hid ((HB4.out.alloc HB4.out.size _).grown hg7 (by simp; omega) fun q e => (HO4.out.lt q e).1)
                    clear hown7 hg7
                    go_roundw
                    case rel => exact ⟨d + 2, by omega, by omega, R4 ++ [[a, b, c, d]], HO7.out, HN.out, HB7.out⟩
                    case measure => (first | (simp [intOf]; done) | (simp [intOf]; omega))
                  · have hI : (((sa : Int) + (sb : Int) + (sc : Int) + (sd : Int)) == 4 * (n : Int)) = false := beq_eq_false_iff_ne.2 (by omega)
                    rw [HrD.out, if_neg heq, List.append_nil] at HN
                    clear heq
                    go_wp2_with fail
                    go_roundw
                    case rel => exact ⟨d + 2, _, by omega, by go_num, HO4.out, HN.out, HB4.out⟩
                    case measure => (first | (simp [intOf]; done) | (simp [intOf]; omega))
                · have hE : R4 = T3 := by
                    have h9 := HR4.out
                    rwa [stp_end hld hxd, List.append_nil] at h9
                  have HO9 := HO4
                  have HNx : Hid (R4 ++ stp (rC n a b) (fs (c + 2)) (c + 2) = T2) := Lib.hid (by rw [hE]; exact HN3.out)
                  clear hE HR4
                  go_wp2_with fail
                  go_roundw
                  case rel => exact ⟨c + 2, R4, by omega, by go_num, HO9.out, HNx.out, HB4.out⟩
                  case measure => (first | (simp [intOf]; done) | (simp [intOf]; omega))
            · have hE : R3 = T2 := by
                have h9 := HR3.out
                rwa [stp_end hlc hxc, List.append_nil] at h9
              have HO9 := HO3
              have HNx : Hid (R3 ++ stp (rB n a) (fs (b + 2)) (b + 2) = T1) := Lib.hid (by rw [hE]; exact HN2.out)
              clear hE HR3
              go_wp2_with fail
              go_roundw
              case rel => exact ⟨b + 2, R3, by omega, by go_num, HO9.out, HNx.out, HB3.out⟩
              case measure => (first | (simp [intOf]; done) | (simp [intOf]; omega))
        · have hE : R2 = T1 := by
            have h9 := HR2.out
            rwa [stp_end hlb hxb, List.append_nil] at h9
          have HO9 := HO2
          have HNx : Hid (R2 ++ stp (rA n) (fs (a + 2)) (a + 2) = fourL n) := Lib.hid (by rw [hE]; exact HN1.out)
          clear hE HR2
          go_wp2_with fail
          go_roundw
          case rel => exact ⟨a + 2, R2, by omega, by go_num, HO9.out, HNx.out, HB2.out⟩
          case measure => (first | (simp [intOf]; done) | (simp [intOf]; omega))
    · have hE : R1 = fourL n := by
        have h9 := HR1.out
        rwa [stp_end hla hxa, List.append_nil] at h9
      have HO9 : Hid (RowsF w1 (.slice ao R1.length vc) (fourL n)) := Lib.hid ⟨_, by rw [← hE]; exact HO1.out⟩
      clear hE
      go_wp2_with fail
      go_ret
      exact ⟨_, rfl, HO9.out, HB1.out⟩
end Go.Proofs.Ytopmdmafameknaa
