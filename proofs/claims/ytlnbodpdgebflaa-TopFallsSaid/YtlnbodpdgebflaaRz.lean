/- TopFalls -/
import Derived.Test.YtlnbodpdgebflaaRy
import Derived.Test.YtlnbodpdgebflaaTk
namespace Go.Proofs.Ytlnbodpdgebflaa
open Go.RowKit

set_option maxRecDepth 100000 in
set_option maxHeartbeats 2000000 in
theorem topfalls (g m S : Nat) (hg : g < 4) (n set : Int) (hm : (IntKind.u64.wrap n).tmod 4 = (g : Int)) (h1g : 1 + (g : Int) = (m : Int)) (hS : (IntKind.u64.wrap set).tmod ((2 : Int) ^ m) = (S : Int)) (hS2 : S < 2 ^ m) (w : World) : Calls Try.prog 18 #[.int .i64 n, .int .i64 set] w fun e w' => e = .returned (.bool true) ∧ Below w.heap.size w w' := by
  have hg17 : g < 17 := by omega
  have hE := tE hg17
  have hm1 : m = g + 1 := by omega
  obtain ⟨hsh, hrows, hRl, _, _, _⟩ := rb_facts hg
  obtain ⟨hkn, hco, hpre, hsq, hcl⟩ := fc_facts hg (by rw [← hm1]; exact hS2)
  have hkM : kM g = m := by
    rw [hm1]
    rcases (show g = 0 ∨ g = 1 ∨ g = 2 ∨ g = 3 by omega) with rfl | rfl | rfl | rfl <;> rfl
  have hgV : gV (kd g) (nm g) = .agg #[.int .u8 65, .int .i64 (m : Int)] := by
    rw [hm1]
    rcases (show g = 0 ∨ g = 1 ∨ g = 2 ∨ g = 3 by omega) with rfl | rfl | rfl | rfl <;> rfl
  rw [← hm1] at hkn hco hpre hsq hcl
  have HAl := Lib.hid (fun W => All_ok g hg17 W)
  have HSh := Lib.hid (fun W => Shapes_any (g + 2) (by omega) (by omega) hrows W)
  have HCl := Lib.hid (fun v zs W h => clone1_any v zs W h)
  have HFa := Lib.hid (fun x v W (hx : x < nE g) h => Falls_ok g hg17 v (nats (wd g x)) W h (word_wd hg17 hx))
  have HTu := Lib.hid (fun W => turns_any W)
  have HFW := Lib.hid (fun x (hx : x < nE g) => folI_wd hg17 hx)
  have HTX := Lib.hid (fun x (hx : x < nE g) => (tx hg17 hx).2.1)
  have HFL := Lib.hid (fun x => flS_lt g x (kM g))
  have hflq : Hid (∀ x, flQ g S x = ((flS g x (kM g) ^^^ (flS g x (kM g) &&& S)) == 0)) := Lib.hid fun x => rfl
  rw [hgV] at HAl HFa
  rw [hkM] at HFa HFL hflq
  have HSt : Hid (∀ l, l ∈ shR g → ∀ w vl, Ints w vl (nats l) → Calls Try.prog 66 #[vl] w fun e w' => e = .returned (.tuple #[.int .i64 (stN l : Nat), .int .i64 0]) ∧ Below w.heap.size w w') := Lib.hid (fun l hl w vl h => by
    have h9 := standard_any w vl _ h
    unfold StdPost at h9
    rwa [(hsh l hl).1, if_pos rfl, if_pos rfl, stdS_nats] at h9)
  have HKo : Hid (∀ l, l ∈ shR g → ∀ w vl vm, Ints w vl (nats l) → Ints w vm (nats (cuL S m)) → Calls Try.prog 68 #[vl, vm] w fun e w' => e = .returned (.tuple #[.int .i64 (kN (cuL S m) l : Nat), .int .i64 0]) ∧ Below w.heap.size w w') := Lib.hid (fun l hl w vl vm h h' => by
    have h9 := kostka_any w vl vm _ _ h h'
    unfold KostkaPost at h9
    have e9 : (shpB (nats l) && coB (nats (cuL S m))) = true := by rw [(hsh l hl).1, hco]; rfl
    rwa [e9, if_pos rfl, if_pos rfl] at h9)
  have HSN := Lib.hid (fun l hl => (hsh l hl).2)
  have HKN := Lib.hid hkn
  have HPR := Lib.hid hpre
  have HSQ := Lib.hid hsq
  have HCL := Lib.hid hcl
  change Hid (∀ W, Calls Try.prog 65 #[.int .i64 (g + 2 : Nat)] W fun e w' => ∃ a c, e = .returned (.slice a (shR g).length c) ∧ NatRows w' (.slice a (shR g).length c) (shR g) ∧ Below W.heap.size W w') at HSh
  rw [show ((g + 2 : Nat) : Int) = (m : Int) + 1 by omega] at HSh
  have h120 := hE.2
  have hm4 : m ≤ 4 := by omega
  have hu : IntKind.u64.wrap ((2 : Int) ^ m) = (2 : Int) ^ m := by have := pw_bd m (by omega); exact ucast (by omega) (by omega)
  have hi : IntKind.i64.wrap ((2 : Int) ^ m) = (2 : Int) ^ m := by have := pw_bd m (by omega); exact i64_of (by omega) (by omega)
  have hz : ¬ (2 : Int) ^ m = 0 := by have := pw_bd m (by omega); omega
  have hP16 : (2 : Nat) ^ m ≤ 16 := Nat.pow_le_pow_right (n := 2) (by decide) hm4
  clear hsh hrows hpre hsq hgV hE hkn hco hcl hm1 hkM
  obtain ⟨rl, hrl⟩ : ∃ rl, rl = (shR g).length := ⟨_, rfl⟩
  rw [← hrl] at hRl HPR HSQ HSh
  have HRL := Lib.hid hrl
  clear hrl
  have HS2 := Lib.hid hS2
  have hS16 : S < 16 := by omega
  clear hS2
  obtain ⟨ne, hne⟩ : ∃ ne, ne = nE g := ⟨_, rfl⟩
  rw [← hne] at h120 HAl HSQ HFa HFW HTX
  clear hne
  obtain ⟨i0, hi0, hz0, hz1, hz2⟩ := info_parts Try.info3
  go_enter Try.func18, Try.ntmps18
  go_wp2_with fail
  clear hS
  refine (HAl.out _).mono ?_
  rintro e w1 ⟨ab, ac, rfl, hpt, hcap, hb⟩
  have HG : Hid (Blk 28 w1 w.heap.size #[.int .u8 65, .int .i64 (m : Int)]) := Lib.hid ((Blk.new _ _ _).below hb)
  have HB : Hid (Below w.heap.size w w1) := Lib.hid (bl1 hb)
  have HPT := Lib.hid hpt
  clear hb hpt HAl
  go_wp2_with fail
  go_loopw [44, 8] (fun i a wq => ∃ k : Nat, k ≤ ne ∧ i = .int .i64 k ∧ a = .int .i64 (fcK g S k : Nat) ∧ Below w1.heap.size w1 wq) (fun i _ _ => ne - (intOf i).toNat)
  case atStart => exact ⟨0, Nat.zero_le _, rfl, rfl, Below.refl _ _⟩
  case round =>
    rename World => wq
    obtain ⟨j, hj, rfl, rfl, hb⟩ := hrel
    have hoj := fcK_le g S j
    by_cases hjl : j < ne
    · obtain ⟨wa, wc, hwc, hwn⟩ := HPT.out j hjl
      have hc1 := ck hwc hb
      have hwn2 : Nats wq (.slice wa (wd g j).length wc) (wd g j) := Ints.below hwn hb (Nat.le_refl _)
      have HWN := Lib.hid hwn2
      have hll := HTX.out j hjl
      have HOS := Lib.hid (fcK_succ g S j)
      have HCj := Lib.hid (fun W h => HCl.out (.slice wa (wd g j).length wc) (nats (wd g j)) W h)
      rw [nats_length] at HCj
      have HBj := Lib.hid (fun v W h => HFa.out j v W hjl h)
      rw [HFW.out j hjl] at HBj
      have hfl := HFL.out j
      have hq9 := hflq.out j
      have HGq := Lib.hid (HG.out.below hb)
      have HBq := Lib.hid hb
      have HIj : Hid (∀ x ∈ nats (wd g j), I64 x) := Lib.hid hwn.2
      have g0 := HGq.out.at0.1
      have g1 := HGq.out.at0.2
      have HKS : Hid (∀ W, Below wq.heap.size wq W → (W.cell? ⟨w.heap.size, 0, none⟩ = some (.int .u8 65) ∧ W.cell? ⟨w.heap.size, 1, none⟩ = some (.int .i64 (m : Int)))) := Lib.hid (fun W hb => ⟨ck g0 hb, ck g1 hb⟩)
      obtain ⟨eb, heb⟩ : ∃ eb, eb = flQ g S j := ⟨_, rfl⟩
      rw [← heb] at HOS hq9
      clear hwn hwc hwn2 hb heb g0 g1
      have hlj : (wd g j).length = ln g j := rfl
      rw [hlj] at hc1 HWN HCj
      clear hlj
      generalize ln g j = lj at *
      obtain ⟨f, hf⟩ : ∃ f, f = flS g j m := ⟨_, rfl⟩
      rw [← hf] at HBj hfl hq9
      clear hf
      have hfc : (f : Int) < (2 : Int) ^ m := by rw [← pw_cast]; omega
      have hfn : ¬ (2 : Int) ^ m ≤ (f : Int) := by omega
      have hand : bits .andNot .i64 (f : Int) (S : Int) = ((f ^^^ (f &&& S) : Nat) : Int) := i64_andNot _ _ (by omega) (by omega)
      have hq8 : (((f ^^^ (f &&& S) : Nat) : Int) == 0) = eb := by
        rw [hq9]
        cases h9 : (f ^^^ (f &&& S) == 0) with
        | true => rw [beq_iff_eq] at h9 ⊢; omega
        | false => rw [beq_eq_false_iff_ne] at h9 ⊢; omega
      clear hq9
      generalize f ^^^ (f &&& S) = z9 at *
      go_wp2_with fail
      refine wp_region_held_drew (S := fun W => W.cell? ⟨w.heap.size, 0, none⟩ = some (.int .u8 65) ∧ W.cell? ⟨w.heap.size, 1, none⟩ = some (.int .i64 (m : Int))) (by kernel_rfl) (HKS.out _ (below_drew (Below.refl _ _))) (fun hS0 => ?_)
      have hBd : Below wq.heap.size wq wq.drew := below_drew (Below.refl _ _)
      refine tk0 (v := (.agg #[.int .u8 65, .int .i64 (m : Int)])) (by kernel_rfl) (by kernel_rfl) (by kernel_rfl) (fun _ _ _ h => h) (Or.inl ⟨by kernel_rfl, fun w' hSw => by have h0 := hSw.1; have h1 := hSw.2; go_simp⟩) hS0 ?_
      try simp only [Act.put, List.setIfInBounds_toArray, List.set_cons_zero, List.set_cons_succ]
      refine tk1 (v := (.slice wa lj wc)) (by kernel_rfl) (by kernel_rfl) (by kernel_rfl) (fun _ _ _ h => h) (Or.inl ⟨by kernel_rfl, fun w' hSw => by go_simp⟩) hS0 ?_
      try simp only [Act.put, List.setIfInBounds_toArray, List.set_cons_zero, List.set_cons_succ]
      refine wpAnyH_ready (rs := [2]) (by kernel_rfl) (by simp) (AllReadyH.cons rfl (fun KK hKK => ?_) AllReadyH.nil)
      go_simp
      refine (HCj.out _ (Ints.below HWN.out hBd (Nat.le_refl _))).mono ?_
      rintro e wc1 ⟨ca, cc, rfl, hown, hb1⟩
      have hB1 : Below wq.heap.size wq wc1 := hBd.trans (hb1.mono hBd.size)
      refine hKK.out _ _ (HKS.out _ hB1) fun _ => ?_
      clear hKK
      have hIc : Ints wc1 (.slice ca lj cc) (nats (wd g j)) := Ints.of_owns hown (by omega) HIj.out
      refine wpAnyH_ready (rs := [3]) (by kernel_rfl) (by simp) (AllReadyH.cons rfl (fun KK hKK => ?_) AllReadyH.nil)
      go_simp
      refine (HBj.out _ _ hIc).mono ?_
      rintro e wc2 ⟨rfl, hb2⟩
      have hB2 : Below wq.heap.size wq wc2 := hB1.trans (hb2.mono hB1.size)
      have hS2 := HKS.out _ hB2
      refine hKK.out _ _ hS2 fun _ => ?_
      clear hKK
      refine tk4 (v := (.tuple #[.int .i64 (f : Nat), .int .i64 0])) (by kernel_rfl) (by kernel_rfl) (by kernel_rfl) (fun _ _ _ h => h) (Or.inl ⟨by kernel_rfl, fun w' hSw => by go_simp⟩) hS2 ?_
      try simp only [Act.put, List.setIfInBounds_toArray, List.set_cons_zero, List.set_cons_succ]
      refine tk5 (v := (.int .i64 (f : Nat))) (by kernel_rfl) (by kernel_rfl) (by kernel_rfl) (fun _ _ _ h => h) (Or.inl ⟨by kernel_rfl, fun w' hSw => by go_simp⟩) hS2 ?_
      try simp only [Act.put, List.setIfInBounds_toArray, List.set_cons_zero, List.set_cons_succ]
      refine tk6 (v := (.int .i64 0)) (by kernel_rfl) (by kernel_rfl) (by kernel_rfl) (fun _ _ _ h => h) (Or.inl ⟨by kernel_rfl, fun w' hSw => by go_simp⟩) hS2 ?_
      try simp only [Act.put, List.setIfInBounds_toArray, List.set_cons_zero, List.set_cons_succ]
      refine tk7 (v := (.int .i64 (f : Nat))) (by kernel_rfl) (by kernel_rfl) (by kernel_rfl) (fun _ _ _ h => h) (Or.inl ⟨by kernel_rfl, fun w' hSw => by go_simp⟩) hS2 ?_
      try simp only [Act.put, List.setIfInBounds_toArray, List.set_cons_zero, List.set_cons_succ]
      refine tk8 (v := (.int .i64 0)) (by kernel_rfl) (by kernel_rfl) (by kernel_rfl) (fun _ _ _ h => h) (Or.inl ⟨by kernel_rfl, fun w' hSw => by go_simp⟩) hS2 ?_
      try simp only [Act.put, List.setIfInBounds_toArray, List.set_cons_zero, List.set_cons_succ]
      refine wpAnyH_done (by kernel_rfl) ?_ _
      have HB2q := Lib.hid (HBq.out.trans (hB2.mono HBq.out.size))
      clear hS0 hBd hown hb1 hB1 hIc hb2 hB2 hS2 HBj HCj HKS HBq HGq
      cases eb with
      | true =>
        rw [if_pos rfl] at HOS
        go_wp2_with fail
        go_roundw
        case rel => exact ⟨j + 1, by omega, by go_num, by rw [HOS.out]; go_num, HB2q.out⟩
        case measure => simp [intOf]; omega
      | false =>
        rw [if_neg (by simp)] at HOS
        go_wp2_with fail
        go_roundw
        case rel => exact ⟨j + 1, by omega, by go_num, by rw [HOS.out], HB2q.out⟩
        case measure => simp [intOf]; omega
    · have hjj : j = ne := by omega
      have hcn9 := fcK_le g S ne
      rw [show fcK g S j = fcK g S ne by rw [hjj]]
      have hnl8 : ¬ (j : Int) < (ne : Int) := by omega
      have HBq := Lib.hid (HB.out.trans (hb.mono HB.out.size))
      clear hb hjj HG HPT HB
      generalize fcK g S ne = cn at *
      go_wp2_with fail
      go_loopw [76, 13] (fun i v wt => ∃ k : Nat, k ≤ m ∧ i = .int .i64 k ∧ wt.ownsRow wq.heap.size 3 1 v (cuL S k).length (ints (nats (cuL S k))) ∧ Below wq.heap.size wq wt) (fun i _ _ => m - (intOf i).toNat)
      case atStart => exact ⟨0, Nat.zero_le _, rfl, World.ownsRow_lit (base := wq.heap.size) (e := 3) (size := 1) wq #[.int .i64 1] 1 (Nat.le_refl _) (by unfold maxLen; omega) (by simp), a1 wq _⟩
      case round =>
        rename World => wt
        obtain ⟨k, hk, rfl, ho, hb⟩ := hrel
        obtain ⟨hl1, hl2, hl8⟩ := HCL.out k hk
        obtain ⟨b, c, rfl, hcc⟩ := own_lit ho hl1
        by_cases hkm : k < m
        · have HL8 := Lib.hid hl8
          have hbit := bit_and1' S k (by omega)
          have HCU : Hid (cuL S (k + 1) = (if S.testBit k then cuL S k ++ [0] else cuL S k).set ((if S.testBit k then cuL S k ++ [0] else cuL S k).length - 1) ((if S.testBit k then cuL S k ++ [0] else cuL S k).getD ((if S.testBit k then cuL S k ++ [0] else cuL S k).length - 1) 0 + 1)) := Lib.hid rfl
          generalize S.testBit k = tb at *
          generalize hcu : cuL S k = cu at *
          obtain ⟨l, hl⟩ : ∃ l, cu.length = l + 1 := ⟨cu.length - 1, by omega⟩
          rw [hl] at ho hl2
          rw [hl]
          have HLN := Lib.hid hl
          have HO := Lib.hid ho
          have HB2 := Lib.hid hb
          clear ho hb hl8 hcu hl1 hl
          cases tb with
          | true =>
            simp only [if_true] at HCU
            have HSZ := Lib.hid HB2.out.size
            go_wp2_with (first
              | (at_builtin
                 refine wpList_append_own _ rfl _ _ 24 rfl wq.heap.size 3 i0 (.int .i64 0) 1 8 Try.underlying24 hi0 hz0 hz1 hz2 rfl (by decide) (.slice (some ⟨b, 0, none⟩) (l + 1) c) (l + 1) (ints (nats cu)) rfl (HO.out.alloc _) ⟨wt.heap.size, 0, none⟩ 1 1 [.int .i64 0] rfl rfl (newOne _ _ _) (oneInt _) (by unfold maxLen; omega) (by omega) (by have := HSZ.out; simp only [World.size_alloc]; omega) ?_
                 intro v9 w9 hown9 hg9 _
                 have hown8 : w9.ownsRow wq.heap.size 3 1 v9 (l + 1 + 1) (ints (nats (cu ++ [0]))) := by simpa [ints, nats] using hown9
                 have HB9 : Hid (Below wq.heap.size wq w9) := Lib.hid ((HB2.out.alloc HSZ.out _).grown hg9 (by have := HSZ.out; simp only [World.size_alloc]; omega) fun q e => (HO.out.lt q e).1)
                 have hz9 : (cu ++ [0]).getD (l + 1) 0 = 0 := by rw [List.getD_eq_getElem?_getD, List.getElem?_append_right (by rw [HLN.out]; omega), HLN.out]; simp
                 have hln9 : (cu ++ [0]).length = l + 1 + 1 := by rw [List.length_append, HLN.out]; rfl
                 rw [hln9, show l + 1 + 1 - 1 = l + 1 by omega, hz9] at HCU
                 have hcl9 : (cuL S (k + 1)).length = l + 1 + 1 := by rw [HCU.out, List.length_set, hln9]
                 obtain ⟨b9, c9, rfl, hc9⟩ := own_lit hown8 (by omega)
                 have t0 := World.ownsRow.cellAt hown8 (l + 1) (by omega)
                 have ht2 : (ints (nats (cu ++ [0])))[l + 1]? = some (.int .i64 0) := by
                   rw [show ints (nats (cu ++ [0])) = ints (nats cu) ++ [.int .i64 0] by simp [ints, nats], List.getElem?_append_right (by rw [ints_length, nats_length, HLN.out]; omega), ints_length, nats_length, HLN.out]
                   simp
                 rw [ht2] at t0
                 have t1 := World.ownsRow.frozenAt hown8 (l + 1)
                 have hst := (World.ownsRow.stored hown8 (l + 1) (.int .i64 1)).1
                 rw [show (ints (nats (cu ++ [0]))).set (l + 1) (.int .i64 1) = ints (nats (cuL S (k + 1))) by rw [HCU.out]; simp [ints, nats, List.map_set]] at hst
                 have HST := Lib.hid hst
                 have hge9 := (World.ownsRow.lt hown8 b9 rfl).1
                 have HBS := Lib.hid (below_cell HB9.out (a := ⟨b9, l + 1, none⟩) hge9 (.int .i64 1))
                 have HCL9 := Lib.hid hcl9
                 clear hown9 hown8 hg9 hz9 hln9 hcl9 ht2 hst HCU)
              | fail)
            go_roundw
            case rel => exact ⟨k + 1, by omega, by go_num, by rw [HCL9.out]; exact HST.out, HBS.out⟩
            case measure => simp [intOf]; omega
          | false =>
            simp only [Bool.false_eq_true, if_false] at HCU
            rw [HLN.out, show l + 1 - 1 = l by omega] at HCU
            have hcl9 : (cuL S (k + 1)).length = l + 1 := by rw [HCU.out, List.length_set, HLN.out]
            have t0 := World.ownsRow.cellAt HO.out l (by omega)
            have ht2 : (ints (nats cu))[l]? = some (.int .i64 (cu.getD l 0 : Nat)) := by
              have h8 : l < cu.length := by rw [HLN.out]; omega
              simp [ints, nats, List.getElem?_eq_getElem h8, List.getD_eq_getElem?_getD]
            rw [ht2] at t0
            have t1 := World.ownsRow.frozenAt HO.out l
            have hz8 : cu.getD l 0 ≤ 8 := HL8.out _ (natD_mem (by rw [HLN.out]; omega))
            have hst := (World.ownsRow.stored HO.out l (.int .i64 ((cu.getD l 0 + 1 : Nat) : Int))).1
            rw [show (ints (nats cu)).set l (.int .i64 ((cu.getD l 0 + 1 : Nat) : Int)) = ints (nats (cuL S (k + 1))) by rw [HCU.out]; simp [ints, nats, List.map_set]] at hst
            generalize cu.getD l 0 = zc at *
            rw [show ((zc + 1 : Nat) : Int) = (zc : Int) + 1 by omega] at hst
            have HST := Lib.hid hst
            have hge9 := (World.ownsRow.lt HO.out b rfl).1
            have HBS := Lib.hid (below_cell HB2.out (a := ⟨b, l, none⟩) hge9 (.int .i64 ((zc : Int) + 1)))
            have HCL9 := Lib.hid hcl9
            clear hcl9 ht2 hst HCU
            go_wp2_with fail
            go_roundw
            case rel => exact ⟨k + 1, by omega, by go_num, by rw [HCL9.out]; exact HST.out, HBS.out⟩
            case measure => simp [intOf]; omega
        · have hkk : k = m := by omega
          have hnl7 : ¬ (k : Int) < (m : Int) := by omega
          rw [hkk] at ho hl1 hl2 hl8
          rw [show (cuL S k).length = (cuL S m).length by rw [hkk]]
          have HCI : Hid (Ints wt (.slice (some ⟨b, 0, none⟩) (cuL S m).length c) (nats (cuL S m))) := Lib.hid (by
            have h9 : wt.ownsRow wq.heap.size 3 1 (.slice (some ⟨b, 0, none⟩) (cuL S m).length c) (cuL S m).length (ints (nats (cuL S m))) := by
              rw [← show (cuL S k).length = (cuL S m).length by rw [hkk]] at ho ⊢
              exact ho
            exact Ints.of_owns h9 (by omega) (nats_I64 fun z hz => by have := hl8 z hz; omega))
          have HBt := Lib.hid (HBq.out.trans (hb.mono HBq.out.size))
          obtain ⟨lc, hlc⟩ : ∃ lc, lc = (cuL S m).length := ⟨_, rfl⟩
          rw [← hlc] at HCI hl2
          rw [← hlc]
          have HLC := Lib.hid hlc
          clear ho hb hkk hl1 hl8 HBq hcc hlc
          go_wp2_with fail
          refine (HSh.out _).mono ?_
          rintro e w2 ⟨ra, rc, rfl, hr, hb⟩
          have HCI2 := Lib.hid (HCI.out.below hb (Nat.le_refl _))
          have HB2 := Lib.hid (HBt.out.trans (hb.mono HBt.out.size))
          obtain ⟨_, _, e, hrcap, _, hrx⟩ := SlOf.open hr
          rw [← HRL.out] at e hrcap
          simp only [Value.slice.injEq] at e
          obtain ⟨rfl, -, rfl⟩ := e
          have HRX := Lib.hid hrx
          clear hr hb hrx HCI HBt HSh
          go_wp2_with fail
          go_loopw [100, 15] (fun i a wr => ∃ k : Nat, k ≤ rl ∧ i = .int .i64 k ∧ a = .int .i64 (sfK (cuL S m) (shR g) k : Nat) ∧ Below w2.heap.size w2 wr) (fun i _ _ => rl - (intOf i).toNat)
          case atStart => exact ⟨0, Nat.zero_le _, rfl, rfl, Below.refl _ _⟩
          case round =>
            rename World => wr
            obtain ⟨k2, hk2, rfl, rfl, hb⟩ := hrel
            have hpk := HPR.out k2 hk2
            have HBr := Lib.hid hb
            by_cases hkl : k2 < rl
            · obtain ⟨l, hl⟩ : ∃ l, (shR g)[k2]? = some l := ⟨(shR g)[k2]'(by rw [← HRL.out]; exact hkl), by simp⟩
              have hmem := List.mem_of_getElem? hl
              obtain ⟨lb, lo, lu, rfl, hck, hlu⟩ := HRX.out k2 l hl
              have c1 := ck hck hb
              have hpk1 := HPR.out (k2 + 1) hkl
              rw [sfK_succ hl] at hpk1
              have HQ1 : Hid (sfK (cuL S m) (shR g) (k2 + 1) = sfK (cuL S m) (shR g) k2 + kN (cuL S m) l * stN l) := Lib.hid (sfK_succ hl)
              have hsn := HSN.out l hmem
              have hkn := HKN.out l hmem
              obtain ⟨la, lc2, rfl, _, _, _⟩ := Nats.open hlu
              have HLU := Lib.hid hlu
              have HLI : Hid (∀ z ∈ nats l, I64 z) := Lib.hid hlu.2
              have HC1 := Lib.hid (fun W (hb : Below w2.heap.size w2 W) => HCl.out _ (nats l) W (Ints.below HLU.out hb (Nat.le_refl _)))
              have HC2 := Lib.hid (fun W (hb : Below w2.heap.size w2 W) => HCl.out _ (nats (cuL S m)) W (HCI2.out.below hb (Nat.le_refl _)))
              rw [nats_length] at HC1 HC2
              rw [← HLC.out] at HC2
              have HK9 := Lib.hid (HKo.out l hmem)
              have HS9 := Lib.hid (HSt.out l hmem)
              have HCI64 : Hid (∀ z ∈ nats (cuL S m), I64 z) := Lib.hid HCI2.out.2
              clear hl hck hlu hmem hb
              generalize kN (cuL S m) l = kv at *
              generalize stN l = sv at *
              generalize sfK (cuL S m) (shR g) k2 = s6 at *
              go_wp2_with fail
              refine (HC1.out _ HBr.out).mono ?_
              rintro e w3 ⟨ca, cc, rfl, hown, hb⟩
              have HB3 : Hid (Below w2.heap.size w2 w3) := Lib.hid (HBr.out.trans (hb.mono HBr.out.size))
              have HI3 := Lib.hid (Ints.of_owns hown (by have := HRL.out; omega) HLI.out)
              clear hown hb HBr
              go_wp2_with fail
              refine (HC2.out _ HB3.out).mono ?_
              rintro e w4 ⟨da, dc, rfl, hown, hb⟩
              have HB4 : Hid (Below w2.heap.size w2 w4) := Lib.hid (HB3.out.trans (hb.mono HB3.out.size))
              have HI4 := Lib.hid (Ints.of_owns hown (by omega) HCI64.out)
              have HI34 := Lib.hid (HI3.out.below hb (Nat.le_refl _))
              clear hown hb HB3 HI3
              go_wp2_with fail
              refine (HK9.out _ _ _ HI34.out HI4.out).mono ?_
              rintro e w5 ⟨rfl, hb⟩
              have HB5 : Hid (Below w2.heap.size w2 w5) := Lib.hid (HB4.out.trans (hb.mono HB4.out.size))
              have c15 := ck c1 (show Below wr.heap.size wr wr from Below.refl _ _)
              clear hb HB4 HI4 HI34 c15
              go_wp2_with fail
              refine (HC1.out _ HB5.out).mono ?_
              rintro e w6 ⟨ca2, cc2, rfl, hown, hb⟩
              have HB6 : Hid (Below w2.heap.size w2 w6) := Lib.hid (HB5.out.trans (hb.mono HB5.out.size))
              have HI6 := Lib.hid (Ints.of_owns hown (by have := HRL.out; omega) HLI.out)
              clear hown hb HB5
              go_wp2_with fail
              refine (HS9.out _ _ HI6.out).mono ?_
              rintro e w7 ⟨rfl, hb⟩
              have HB7 : Hid (Below w2.heap.size w2 w7) := Lib.hid (HB6.out.trans (hb.mono HB6.out.size))
              clear hb HB6 HI6
              have hmul : ((kv : Int) * (sv : Int)) = ((kv * sv : Nat) : Int) := by simp
              have hm9 : kv * sv ≤ 1000 := by omega
              generalize kv * sv = s2 at *
              go_wp2_with fail
              go_roundw
              case rel => exact ⟨k2 + 1, by omega, by go_num, by rw [HQ1.out]; go_num, HB7.out⟩
              case measure => simp [intOf]; omega
            · have hkk : k2 = rl := by omega
              rw [show sfK (cuL S m) (shR g) k2 = cn by rw [hkk]; exact HSQ.out]
              have hnl6 : ¬ (k2 : Int) < (rl : Int) := by omega
              have HBz := Lib.hid (HB2.out.trans (hb.mono HB2.out.size))
              clear hb hkk HCI2 HB2 HBr
              go_wp2_with fail
              refine (HTu.out _).mono ?_
              rintro e w9 ⟨rfl, hb⟩
              have HB9 := Lib.hid (HBz.out.trans (hb.mono HBz.out.size))
              clear hb
              go_wp2_with fail
              go_ret
              exact ⟨rfl, HB9.out⟩

/-- THE LAW TopFalls. -/
theorem topFalls_law (n set : Int) (w : World) : Calls Try.prog 18 #[.int .i64 n, .int .i64 set] w fun e w' => e = .returned (.bool true) ∧ Below w.heap.size w w' := by
  have h := IntKind.wrap_u64 n
  have hs := IntKind.wrap_u64 set
  have h0 : 0 ≤ IntKind.u64.wrap n := by rw [h]; omega
  have hs0 : 0 ≤ IntKind.u64.wrap set := by rw [hs]; omega
  have h1 : (IntKind.u64.wrap n).tmod 4 = (IntKind.u64.wrap n) % 4 := Int.tmod_eq_emod_of_nonneg h0
  obtain ⟨g, hg⟩ : ∃ g : Nat, (g : Int) = (IntKind.u64.wrap n) % 4 := ⟨((IntKind.u64.wrap n) % 4).toNat, by omega⟩
  have hs1 : (IntKind.u64.wrap set).tmod ((2 : Int) ^ (g + 1)) = (IntKind.u64.wrap set) % ((2 : Int) ^ (g + 1)) := Int.tmod_eq_emod_of_nonneg hs0
  have hp := pw_bd (g + 1) (by omega)
  have hm0 := Int.emod_nonneg (IntKind.u64.wrap set) (show (2 : Int) ^ (g + 1) ≠ 0 by omega)
  have hm1 := Int.emod_lt_of_pos (IntKind.u64.wrap set) (show 0 < (2 : Int) ^ (g + 1) by omega)
  obtain ⟨S, hS⟩ : ∃ S : Nat, (S : Int) = (IntKind.u64.wrap set) % ((2 : Int) ^ (g + 1)) := ⟨((IntKind.u64.wrap set) % ((2 : Int) ^ (g + 1))).toNat, Int.toNat_of_nonneg hm0⟩
  exact topfalls g (g + 1) S (by omega) n set (by rw [h1, hg]) (by omega) (by rw [hs1, hS]) (by rw [← hS, ← pw_cast] at hm1; omega) w
end Go.Proofs.Ytlnbodpdgebflaa
