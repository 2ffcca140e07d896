/- Heights -/
import Derived.Test.YtellnklbkjajbaaDoorSo
import Derived.Test.YtellnklbkjajbaaDoorOp
namespace Go.Proofs.YtellnklbkjajbaaDoor
open Go.RowKit Go.Proofs

def fin64 (bs : List Nat) : List (Fin 64) := bs.map fun r => ⟨r % 64, Nat.mod_lt _ (by decide)⟩
theorem fin64_val {bs : List Nat} (h : ∀ r ∈ bs, r < 64) : (fin64 bs).map (·.val) = bs := by
  unfold fin64
  rw [List.map_map]
  conv => rhs; rw [← List.map_id bs]
  refine List.map_congr_left fun r hr => ?_
  show r % 64 = r
  exact Nat.mod_eq_of_lt (h r hr)

/-- Rows in a block, sorted by their sizes, not frozen or else: what SortFunc leaves. -/
theorem sortF_any (B g cap : Nat) (bs : List Nat) (w : World) (h64 : ∀ r ∈ bs, r < 64) (hl : bs.length ≤ 6) (ho : w.ownsRow B 3 1 (.slice (some ⟨g, 0, none⟩) bs.length cap) bs.length (ints (nats bs))) (hB : B ≤ w.heap.size) :
    Calls Tryd.prog 66 #[.slice (some ⟨g, 0, none⟩) bs.length cap, .func (.func 67) #[] #[]] w fun e w' => e = .returned (.tuple #[]) ∧ ∃ rs : List Nat, rs.Perm bs ∧ (∀ i, i + 1 < rs.length → fl (rs.getD i 0) ≤ fl (rs.getD (i + 1) 0)) ∧
      (∀ k, k < bs.length → w'.cell? ⟨g, k, none⟩ = some (.int .i64 (rs.getD k 0 : Nat))) ∧ Below B w w' := by
  obtain ⟨hgB, hgw⟩ := ho.lt g rfl
  have hcell : ∀ k, k < bs.length → w.cell? ⟨g, k, none⟩ = some (.int .i64 (bs.getD k 0 : Nat)) := fun k hk => by
    rw [ho.cellAt k (by omega)]
    simp [ints, nats, hk]
  have hfz : ∀ k, w.frozen? ⟨g, k, none⟩ = false := fun k => by
    rcases ho.2 with ⟨h, _⟩ | ⟨g', cap', cur, h, _, hh, _⟩
    · cases h
    · simp only [Value.slice.injEq, Option.some.injEq, Addr.mk.injEq, and_true, true_and] at h
      obtain ⟨rfl, rfl⟩ := h
      simp [World.frozen?, hh]
  have hd : (fin64 bs).toArray.size = bs.length := by simp [fin64]
  have hget : ∀ (d : Array (Fin 64)) (k : Nat), k < d.size → ((d.toList.map (·.val)).getD k 0) = d[k]!.val := fun d k hk => by
    rw [getElem!_pos d k hk]
    simp [hk]
  have hH : Go.Sort.Holds enc64 w g 0 (fin64 bs).toArray := fun j hj => by
    refine ⟨?_, hfz _⟩
    rw [Nat.zero_add, hcell j (by rw [← hd]; exact hj)]
    unfold enc64
    rw [← hget _ j hj]
    simp [fin64_val h64]
  have hc := Any.slices_SortFunc laysSlF6_f66 enc64 (fun _ => rfl) cf64 swo64 67 #[] g 0 cap (fin64 bs).toArray w (enters_of Tryd.func67 (by kernel_rfl) rfl)
    (CmpReads.lays fun m os dk hs x y => (closure67 x y _).mono fun _ _ ⟨he, hw⟩ => ⟨he, 0, hw.symm⟩) hH hgw (by rw [hd]; omega)
  rw [hd] at hc
  refine hc.mono fun e w' ⟨he, d', n, os, hp, hs, hw⟩ => ⟨he, ?_⟩
  have hds : d'.size = bs.length := hp.1.trans hd
  have hperm : (d'.toList.map (·.val)).Perm bs := by
    have h3 := hp.2.2
    have e1 : (d'.extract 0 bs.length) = d' := by rw [← hds]; simp
    have e2 : ((fin64 bs).toArray.extract 0 bs.length) = (fin64 bs).toArray := by rw [← hd]; simp
    rw [e1, e2] at h3
    have := h3.map (·.val)
    rwa [show ((fin64 bs).toArray.toList.map (·.val)) = bs from by simp [fin64_val h64]] at this
  have hHs := Go.Proofs.holds_sortWorld enc64 w g 0 n (fin64 bs).toArray d' os hgw hH (by rw [hds, hd])
  refine ⟨d'.toList.map (·.val), hperm, fun i hi => ?_, fun k hk => ?_, ?_⟩
  · have hi' : i + 1 < d'.size := by simpa using hi
    rw [hget d' i (by omega), hget d' (i + 1) hi']
    have := hs i (i + 1) (Nat.zero_le _) (Nat.lt_succ_self _) (by omega)
    rw [lt64] at this
    have := of_decide_eq_false this
    omega
  · have := (hHs k (by omega)).1
    rw [Nat.zero_add] at this
    rw [hw, this, hget d' k (by omega)]
    rfl
  · rw [hw]
    have hgb : w.grownBy (Go.Proofs.sortWorld enc64 w g 0 n d' os) (some g) := by
      refine ⟨rfl, rfl, rfl, by simp [Go.Proofs.sortWorld], fun k hk hne => ?_⟩
      unfold Go.Proofs.sortWorld
      rw [Go.Sort.heap_grow_old _ _ (by simpa using hk)]
      have : g ≠ k := fun e => hne (by rw [e])
      simp [Go.Sort.putRow, Go.Sort.mapBlock, Sort.ahead, Array.getElem?_modify, this]
    exact (Below.refl B w).grown hgb hB fun k hk => by cases hk; exact hgB

theorem sub_none {a b : Nat} (h : sub a b = 0) : a &&& b = a := Nat.eq_of_testBit_eq fun j => by
  have hj : (sub a b).testBit j = false := by rw [h]; exact Nat.zero_testBit j
  rw [sub_bit] at hj
  rw [Nat.testBit_and]
  cases ha : a.testBit j <;> cases hb : b.testBit j <;> simp_all

set_option maxRecDepth 100000 in
set_option maxHeartbeats 2000000 in
theorem Heights_any (v : Value) (bs : List Nat) (n : Nat) (w : World) (hb : Brd n bs) (h : Nats w v bs) :
    Calls Tryd.prog 32 #[v] w fun e w' => HtPost bs e w' ∧ Below w.heap.size w w' := by
  have hn := hb.le
  have hp1 := hb.pos
  have h64 : ∀ r ∈ bs, r < 64 := fun r hr => Nat.lt_of_lt_of_le (hb.lt r hr) (pw6 n hn).2
  have hl := hb.len
  have HB := Lib.hid (isBoard_any v (nats bs) w h)
  rw [boardB_mk hb] at HB
  have HCl := Lib.hid (clone1_any v (nats bs) w h)
  rw [nats_length, hl] at HCl
  have HSo := Lib.hid (fun B g cap w ho hB => sortF_any B g cap bs w h64 (by omega) ho hB)
  rw [hl] at HSo
  have HSi := Lib.hid (fun x w hx => size_any x w hx)
  have hmk : ∀ W : World, (Instr.makeSlice 22 (.int .i64 (n:Int)) (.int .i64 (n:Int))).run Tryd.prog W = .ok (.slice (some ⟨W.heap.size, 0, none⟩) n n) (W.alloc (.cells (ints (List.replicate n 0)).toArray 3)) :=
    run_make22 n n (Nat.le_refl _) (by omega)
  have H64 := Lib.hid h64
  have HB0 := Lib.hid (Below.refl w.heap.size w)
  clear h hb h64
  go_enter Tryd.func32, Tryd.ntmps32
  go_wp2_with fail
  refine HB.out.mono ?_
  rintro e w' ⟨rfl, rfl⟩
  go_wp2_with fail
  refine HCl.out.mono ?_
  rintro e w1 ⟨ao, c, rfl, hO, hb1⟩
  rcases owns_form' hO with ⟨_, h0⟩ | ⟨g, c', e, _⟩
  · exfalso
    have : (nats bs).length = 0 := by rw [h0]; rfl
    rw [nats_length] at this
    omega
  simp only [Value.slice.injEq, true_and] at e
  obtain ⟨rfl, rfl⟩ := e
  have HO := Lib.hid hO
  have HB1 := Lib.hid hb1
  clear hO hb1
  go_wp2_with fail
  refine (HSo.out w.heap.size g c w1 HO.out HB1.out.size).mono ?_
  rintro e w2 ⟨rfl, rs, hp, hs, hc, hb2⟩
  have HB2 := Lib.hid (HB1.out.trans hb2)
  have hlr : rs.length = n := hp.length_eq.trans hl
  have hr64 : ∀ r ∈ rs, r < 64 := fun r hr => H64.out r (hp.mem_iff.1 hr)
  have HCh := Lib.hid (chain_ok hr64 hs)
  rw [hlr] at HCh
  have HOk := Lib.hid (okB_perm hp)
  have HGt : Hid (∀ k, rs.getD k 0 < 64) := Lib.hid fun k => by
    by_cases hk : k < rs.length
    · exact hr64 _ (natD_mem hk)
    · rw [getD_over (by omega)]; decide
  have HUn : Hid (nats (rs.map fl) = htL bs) := Lib.hid (by
    refine risL_unique ?_ ?_
    · unfold szL nats
      rw [List.map_map, List.map_map]
      exact hp.map _
    · unfold nats
      rw [List.pairwise_map, List.pairwise_map]
      refine List.pairwise_iff_getElem.2 fun i j hi hj hij => ?_
      have up : ∀ d, i + d < rs.length → fl (rs.getD i 0) ≤ fl (rs.getD (i + d) 0) := by
        intro d
        induction d with
        | zero => intro _; exact Nat.le_refl _
        | succ d ih => intro hd; exact Nat.le_trans (ih (by omega)) (hs (i + d) (by omega))
      have := up (j - i) (by omega)
      rw [show i + (j - i) = j by omega] at this
      simp only [List.getD_eq_getElem?_getD, List.getElem?_eq_getElem hi, List.getElem?_eq_getElem hj, Option.getD_some] at this
      omega)
  have hgw := HO.out.lt g rfl
  have hgw2 : g < w2.heap.size := by have := hb2.size; omega
  have HC : Hid (∀ k, k < n → w2.cell? ⟨g, k, none⟩ = some (.int .i64 (rs.getD k 0 : Nat))) := Lib.hid fun k hk => hc k hk
  have HLn : Hid ((rs.map fl).length = n) := Lib.hid (by rw [List.length_map, hlr])
  have HGf : Hid (∀ k, k < n → (rs.map fl).getD k 0 = fl (rs.getD k 0)) := Lib.hid fun k hk => by
    have : k < rs.length := by omega
    simp [this]
  have HZ : Hid (List.replicate n (0:Int) = nats (fillK (rs.map fl) 0)) := Lib.hid (by rw [fillK_zero, HLn.out])
  have HF6 : Hid (∀ x ∈ rs.map fl, x < 65536) := Lib.hid fun x hx => by
    obtain ⟨r, hr, rfl⟩ := List.mem_map.1 hx
    have := fl_bd r (hr64 r hr)
    omega
  clear hp hs hc hb2 hlr hr64 HO HSo
  go_wp2_with fail
  clear hmk
  have hsz3 : (w2.alloc (.cells (ints (List.replicate n 0)).toArray 3)).heap.size = w2.heap.size + 1 := World.size_alloc _ _
  have HM0 : Hid (Below w2.heap.size w2 (w2.alloc (.cells (ints (List.replicate n 0)).toArray 3))) := (Below.refl _ _).alloc (Nat.le_refl _) _
  go_loopw [20] (fun i wr => ∃ k : Nat, k ≤ n ∧ i = .int .i64 k ∧ NatBlk wr w2.heap.size (fillK (rs.map fl) k) ∧ Below w2.heap.size w2 wr ∧ ∀ j, j + 1 < k → rs.getD j 0 &&& rs.getD (j + 1) 0 = rs.getD j 0) (fun i _ => n - (intOf i).toNat)
  case atStart => exact ⟨0, Nat.zero_le _, rfl, by rw [HZ.out]; exact NatBlk.start w2 _, HM0.out, fun j hj => absurd hj (by omega)⟩
  case round =>
    obtain ⟨k, hk, rfl, hN, hb3, hch⟩ := hrel
    have HNB := Lib.hid hN
    have HB3 := Lib.hid hb3
    have HCk := Lib.hid hch
    clear hN hb3 hch
    by_cases hlt : k < n
    · have hck := ck (HC.out k hlt) HB3.out
      obtain ⟨hcz, hfz⟩ := HNB.out.cell (k := k) (by rw [fillK_length _ _ (by rw [HLn.out]; exact hk), HLn.out]; exact hlt)
      have hr := HGt.out k
      have HSz := Lib.hid (HSi.out (rs.getD k 0) wr hr)
      have HS : Hid (NatBlk (wr.setCell ⟨w2.heap.size, k, none⟩ (.int .i64 (fl (rs.getD k 0) : Nat))) w2.heap.size (fillK (rs.map fl) (k + 1))) := Lib.hid (by
        rw [← fillK_set _ k (by rw [HLn.out]; exact hlt), HGf.out k hlt]; exact HNB.out.set k _)
      generalize (fillK (rs.map fl) k).getD k 0 = old at *
      by_cases h0 : 0 < k
      · obtain ⟨m, rfl⟩ : ∃ m, k = m + 1 := ⟨k - 1, by omega⟩
        have hcp := ck (HC.out m (by omega)) HB3.out
        have hrm := HGt.out m
        have hand := i64_andNot (rs.getD m 0) (rs.getD (m + 1) 0) (by omega) (by omega)
        have hsub : ((m + 1 : Nat) : Int) - 1 = (m : Int) := by omega
        have hp0 : (0:Int) < ((m + 1 : Nat) : Int) := by omega
        have hm0 : (0:Int) ≤ (m : Int) := by omega
        have hm1 : (m : Int) < (n : Int) := by omega
        have hlti : ((m + 1 : Nat) : Int) < (n : Int) := by omega
        by_cases cc : rs.getD m 0 &&& rs.getD (m + 1) 0 = rs.getD m 0
        · have HK : Hid (∀ j, j + 1 < m + 1 + 1 → rs.getD j 0 &&& rs.getD (j + 1) 0 = rs.getD j 0) := Lib.hid fun j hj => by
            by_cases e : j = m
            · subst e; exact cc
            · exact HCk.out j (by omega)
          have hz : bits .andNot .i64 ((rs.getD m 0 : Nat) : Int) ((rs.getD (m + 1) 0 : Nat) : Int) = 0 := by rw [hand, cc, Nat.xor_self]; rfl
          clear hand cc
          generalize rs.getD (m + 1) 0 = r1 at *
          generalize rs.getD m 0 = r0 at *
          generalize fl r1 = f at *
          go_wp2_with fail
          refine HSz.out.mono ?_
          rintro e w' ⟨rfl, rfl⟩
          go_wp2_with fail
          go_roundw
          case rel => exact ⟨m + 1 + 1, by omega, by go_num, HS.out, HB3.out.setCell (Nat.le_refl _) _, HK.out⟩
          case measure => simp [intOf]; omega
        · have HR : Hid (okB bs = false) := Lib.hid (by
            rw [← HOk.out]
            cases ho : okB rs with
            | false => rfl
            | true => exact absurd (HCh.out.1 ho m (by omega)) cc)
          have hz : (bits .andNot .i64 ((rs.getD m 0 : Nat) : Int) ((rs.getD (m + 1) 0 : Nat) : Int) != 0) = true := by
            rw [hand]
            refine bne_iff_ne.2 fun h => ?_
            have h : sub (rs.getD m 0) (rs.getD (m + 1) 0) = 0 := by exact_mod_cast h
            exact cc (sub_none h)
          clear hand cc
          generalize rs.getD (m + 1) 0 = r1 at *
          generalize rs.getD m 0 = r0 at *
          go_wp2_with fail
          go_ret2
          exact ⟨.inl ⟨HR.out, rfl⟩, HB2.out.trans (HB3.out.mono HB2.out.size)⟩
      · obtain rfl : k = 0 := by omega
        clear h0
        have HK : Hid (∀ j, j + 1 < 0 + 1 → rs.getD j 0 &&& rs.getD (j + 1) 0 = rs.getD j 0) := Lib.hid fun j hj => absurd hj (by omega)
        generalize rs.getD 0 0 = r1 at *
        generalize fl r1 = f at *
        go_wp2_with fail
        refine HSz.out.mono ?_
        rintro e w' ⟨rfl, rfl⟩
        go_wp2_with fail
        go_roundw
        case rel => exact ⟨1, by omega, by go_num, HS.out, HB3.out.setCell (Nat.le_refl _) _, HK.out⟩
        case measure => simp [intOf]; omega
    · obtain rfl : k = n := by omega
      have HR : Hid (okB bs = true) := Lib.hid (by rw [← HOk.out]; exact HCh.out.2 fun i hi => HCk.out i hi)
      have HE : Hid (fillK (rs.map fl) k = rs.map fl) := Lib.hid (by have := fillK_end (rs.map fl); rwa [HLn.out] at this)
      rw [HE.out] at HNB
      have HV := Lib.hid (HNB.out.nats (by rw [HLn.out]; omega) HF6.out)
      rw [HLn.out] at HV
      go_wp2_with fail
      go_ret2
      exact ⟨.inr ⟨HR.out, _, rfl, by rw [← HUn.out]; exact HV.out⟩, HB2.out.trans (HB3.out.mono HB2.out.size)⟩
theorem Heights_bad (v : Value) (xs : List Int) (w : World) (hb : boardB xs = false) (h : Ints w v xs) :
    Calls Tryd.prog 32 #[v] w fun e w' => e = .returned (.tuple #[.slice none 0 0, .int .i64 2]) ∧ w = w' := by
  have HB := Lib.hid (isBoard_any v xs w h)
  rw [hb] at HB
  clear h
  go_enter Tryd.func32, Tryd.ntmps32
  go_wp2_with fail
  refine HB.out.mono ?_
  rintro e w' ⟨rfl, rfl⟩
  go_wp2
  go_ret2
  exact ⟨rfl, rfl⟩
end Go.Proofs.YtellnklbkjajbaaDoor

namespace Go.Proofs.YtellnklbkjajbaaDoor
open Go.RowKit

def htE (bs : List Nat) : Int := if okB bs then 0 else 4
def htV (bs : List Nat) : List Int := if okB bs then htL bs else []
theorem HtPost.val {bs : List Nat} {e : Ending} {w' : World} (h : HtPost bs e w') : ∃ v', e = .returned (.tuple #[v', .int .i64 (htE bs)]) ∧ Ints w' v' (htV bs) := by
  unfold htE htV
  rcases h with ⟨h, rfl⟩ | ⟨h, v', rfl, hI⟩
  · rw [h]; exact ⟨_, rfl, Ints.nil _⟩
  · rw [h]; exact ⟨v', rfl, hI⟩
theorem Heights_val (v : Value) (bs : List Nat) (n : Nat) (w : World) (hb : Brd n bs) (h : Nats w v bs) :
    Calls Tryd.prog 32 #[v] w fun e w' => ∃ v', e = .returned (.tuple #[v', .int .i64 (htE bs)]) ∧ Ints w' v' (htV bs) ∧ Below w.heap.size w w' :=
  (Heights_any v bs n w hb h).mono fun _ _ ⟨hp, hb'⟩ => by obtain ⟨v', e1, e2⟩ := hp.val; exact ⟨v', e1, e2, hb'⟩
theorem rHeights_val (v : Value) (bs : List Nat) (n : Nat) (w : World) (hb : Brd n bs) (h : Nats w v bs) :
    Calls Tryd.prog 35 #[v] w fun e w' => ∃ v', e = .returned (.tuple #[v', .int .i64 (htE bs)]) ∧ Ints w' v' (htV bs) ∧ Below w.heap.size w w' :=
  (rHeights_any v bs n w hb h).mono fun _ _ ⟨hp, hb'⟩ => by obtain ⟨v', e1, e2⟩ := hp.val; exact ⟨v', e1, e2, hb'⟩
theorem brd_take {n : Nat} {bs : List Nat} (h : Brd n bs) : (nats bs).take 9 = nats bs := List.take_of_length_le (by rw [nats_length, h.len]; have := h.le; omega)
end Go.Proofs.YtellnklbkjajbaaDoor
