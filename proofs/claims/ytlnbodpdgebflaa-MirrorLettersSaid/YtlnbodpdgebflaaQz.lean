/- MirrorLetters: a good word -/
import Derived.Test.YtlnbodpdgebflaaWh
import Derived.Test.YtlnbodpdgebflaaSz
import Derived.Test.YtlnbodpdgebflaaCb
import Derived.Test.YtlnbodpdgebflaaQy
namespace Go.Proofs.Ytlnbodpdgebflaa
open Go.RowKit
set_option maxHeartbeats 2000000 in
theorem fineL_any (g : Nat) (hg : g < 17) (v : Value) (Ls : List (List Int)) (w : World) (h : IntRows w v Ls) (h3 : Ls.length ≤ 16777216) :
    Calls Try.prog 24 #[gV (kd g) (nm g), v] w fun e w' => e = .returned (.bool (Ls.all (wordB g))) ∧ Below w.heap.size w w' := by
  obtain ⟨ao, cap, rfl, h1, h2, hx⟩ := h.open
  have HX := Lib.hid hx
  have HG := Lib.hid (fun W => Valid_any (kd g) (nm g) W)
  rw [grp_kn hg] at HG
  have HW := Lib.hid (fun v l W h => Word_any g hg v l W h)
  clear h hx
  go_enter Try.func24, Try.ntmps24
  go_wp2_with fail
  refine (HG.out _).mono ?_
  rintro e w1 ⟨rfl, hb1⟩
  have HG1 : Hid (Blk 23 w1 w.heap.size #[.int .u8 (kd g), .int .i64 (nm g)]) := Lib.hid ((Blk.new _ _ _).below hb1)
  have HB1 : Hid (Below w.heap.size w w1) := Lib.hid ((a1 w _).trans (hb1.mono (by simp)))
  clear hb1 HG
  go_wp2_with fail
  go_loopw [12] (fun i wr => ∃ k : Nat, k ≤ Ls.length ∧ i = .int .i64 k ∧ (Ls.take k).all (wordB g) = true ∧ Blk 23 wr w.heap.size #[.int .u8 (kd g), .int .i64 (nm g)] ∧ Below w.heap.size w wr) (fun i _ => Ls.length - (intOf i).toNat)
  case atStart => exact ⟨0, Nat.zero_le _, rfl, rfl, HG1.out, HB1.out⟩
  case round =>
    clear HG1 HB1
    obtain ⟨k, hk, rfl, hl, hG, hb⟩ := hrel
    have HL := Lib.hid hl
    have HG := Lib.hid hG
    have HB := Lib.hid hb
    have g0 := hG.at0.1
    have g1 := hG.at0.2
    clear hl hG hb
    by_cases hlt : k < Ls.length
    · obtain ⟨l, hkl⟩ : ∃ l, Ls[k]? = some l := ⟨Ls[k], by simp [hlt]⟩
      obtain ⟨b, o, u, rfl, hck, hu⟩ := HX.out k l hkl
      have hck' := ck hck (W := w) (w1 := wr) HB.out
      have HU : Hid (Ints wr u l) := Lib.hid (hu.below HB.out (Nat.le_refl _))
      have HK := Lib.hid hkl
      obtain ⟨ua, uc, rfl, _, _, _⟩ := hu.open
      clear hck hu hkl
      go_wp2_with fail
      refine (HW.out _ _ _ HU.out).mono ?_
      rintro e w2 ⟨rfl, hb2⟩
      have HG2 := Lib.hid (HG.out.below hb2)
      have HB2 : Hid (Below w.heap.size w w2) := Lib.hid (HB.out.trans (hb2.mono HB.out.size))
      clear hb2
      cases hm : wordB g l with
      | true =>
        have HT2 := Lib.hid (all_take HK.out HL.out hm)
        clear hm
        go_wp2_with fail
        go_roundw
        case rel => exact ⟨k + 1, by omega, by go_num, HT2.out, HG2.out, HB2.out⟩
        case measure => simp [intOf]; omega
      | false =>
        have HE : Hid (Ls.all (wordB g) = false) := Lib.hid (List.all_eq_false.2 ⟨l, List.mem_of_getElem? HK.out, by rw [hm]; decide⟩)
        clear hm
        go_wp2_with fail
        go_ret
        exact ⟨ret_bool HE.out.symm, HB2.out⟩
    · obtain rfl : k = Ls.length := by omega
      have HA : Hid (Ls.all (wordB g) = true) := Lib.hid (by have := HL.out; rwa [List.take_length] at this)
      clear HL HW
      go_wp2_with fail
      go_ret
      exact ⟨ret_bool HA.out.symm, HB.out⟩
def Cel (a : Addr) (u : Value) (W : World) : Prop := W.cell? a = some u
theorem Cel.below {a : Addr} {u : Value} {W W' : World} (h : Cel a u W) (hb : Below W.heap.size W W') : Cel a u W' := ck h hb
theorem NatRows.ints {W : World} {v : Value} {L : List (List Nat)} (h : NatRows W v L) : IntRows W v (L.map nats) := by
  obtain ⟨vs, h1, h2, h3⟩ := h
  refine ⟨vs, h1, by simpa using h2, fun i u x a b => ?_⟩
  rw [List.getElem?_map] at b
  cases hb : L[i]? with
  | none => rw [hb] at b; cases b
  | some l => rw [hb] at b; cases b; exact h3 i u l a hb
theorem run_makeBL (n : Nat) (hn : n ≤ 16777216) (W : World) : (Instr.makeSlice 59 (.int .i64 n) (.int .i64 n)).run Try.prog W = .ok (.slice (some ⟨W.heap.size, 0, none⟩) n n) (W.alloc (.cells (bools n fun _ => false).toArray 4)) := by
  rw [run_make_row' (P := Try.prog) 59 4 (.bool false) 1 Try.underlying59 Try.info4 rfl .i64 .i64 n (by omega) (by omega) W]
  have e : madeCells #[Value.bool false] n = (bools n fun _ => false).toArray := by
    apply Array.ext'
    rw [toList_madeCells_one]
    exact (List.eq_replicate_iff.2 ⟨by simp [bools], fun b hb => by obtain ⟨j, _, rfl⟩ := List.mem_map.1 hb; rfl⟩).symm
  rw [e]
theorem ownB_firstL (n : Nat) (hn : n ≤ 16777216) (W : World) : OwnB (W.alloc (.cells ((bools n fun _ => false).set 0 (.bool true)).toArray 4)) W.heap.size W.heap.size n n fun j => j == 0 := by
  have e : (bools n fun _ => false).set 0 (.bool true) = bools n fun j => j == 0 := by
    apply List.ext_getElem?
    intro i
    by_cases hi : i < n
    · rw [bools_get _ hi]
      by_cases q : 0 = i
      · subst q
        rw [List.getElem?_set_self (by rw [bools_len]; exact hi)]; rfl
      · rw [List.getElem?_set_ne q, bools_get _ hi]
        simp; omega
    · rw [List.getElem?_eq_none (by rw [List.length_set, bools_len]; omega), List.getElem?_eq_none (by rw [bools_len]; omega)]
  rw [e]
  exact World.ownsRow_lit (base := W.heap.size) (e := 4) (size := 1) W (bools n _).toArray n (Nat.le_refl _) (by unfold maxLen; omega) (by simp [bools])
theorem own_cap {W : World} {B e sz n b k c : Nat} {xs : List Value} (h : W.ownsRow B e sz (.slice (some ⟨b, 0, none⟩) k c) n xs) : n ≤ c := by
  obtain ⟨_, h2⟩ := h
  rcases h2 with ⟨e, _⟩ | ⟨_, _, _, e, _, _, h3, _⟩
  · simp at e
  · simp only [Value.slice.injEq] at e; omega
theorem owns_at {w w' : World} {B b k c n size : Nat} {e : TypeId} {xs : List Value} (h : w.ownsRow B e size (.slice (some ⟨b, 0, none⟩) k c) n xs) (hh : w'.heap[b]? = w.heap[b]?) : w'.ownsRow B e size (.slice (some ⟨b, 0, none⟩) k c) n xs := by
  obtain ⟨h1, h2⟩ := h
  refine ⟨h1, ?_⟩
  rcases h2 with h2 | ⟨g, cap, cur, hv, hg, hq, r⟩
  · exact .inl h2
  · refine .inr ⟨g, cap, cur, hv, hg, ?_, r⟩
    simp only [Value.slice.injEq, Option.some.injEq, Addr.mk.injEq, and_true] at hv
    rw [← hv.1, hh, hv.1]; exact hq
theorem owns_natsL {W : World} {B : Nat} {v : Value} {l : List Nat} (h : W.ownsRow B 3 1 v l.length (ints (nats l))) (hl : l.length ≤ 16777216) (hb : ∀ x ∈ l, x < 65536) : Nats W v l := Ints.of_owns (n := l.length) h (by omega) (nats_I64 hb)
theorem ovc_lt {x : List Nat} {p c n : Nat} (h0 : 0 < n) (h : ∀ z ∈ x, z < n) : ∀ z ∈ ovc x p c, z < n := by
  intro z hz
  obtain ⟨i, _, rfl⟩ := List.mem_map.1 hz
  have hk : ∀ j, x.getD j 0 < n := fun j => by
    by_cases e : j < x.length
    · exact h _ (natD_mem e)
    · rw [List.getD_eq_getElem?_getD, List.getElem?_eq_none (by omega)]; exact h0
  split <;> exact hk _
theorem ints_set (l : List Nat) (j z : Nat) : ints (nats (l.set j z)) = (ints (nats l)).set j (.int .i64 (z : Nat)) := by simp [ints, nats, List.map_set]
theorem OwnB.alloc {W : World} {B b n c : Nat} {F : Nat → Bool} (h : OwnB W B b n c F) (o : Obj) : OwnB (W.alloc o) B b n c F := h.below (a1 W o) (Nat.le_refl _)

set_option maxRecDepth 100000 in
set_option maxHeartbeats 4000000 in
theorem letters_good (g : Nat) (hg : g < 17) (v2 v1 : Value) (l2 l1 : List Int) (w : World) (h2 : Ints w v2 l2) (h1 : Ints w v1 l1) (hw1 : wordB g l1 = true) :
    Calls Try.prog 10 #[gV (kd g) (nm g), v2, v1] w fun e w' => e = .returned (.bool true) ∧ Below w.heap.size w w' := by
  have q1 : l1.length ≤ 30 := by simp [wordB] at hw1; omega
  have HOf := Lib.hid (fun W => Of_any (kd g) (nm g) W)
  have HLi := Lib.hid (fun v W h => listOk q1 v W h)
  have HF := Lib.hid (fun v W h => fine_any g hg v [l1] W h (by simp))
  rw [show [l1].all (wordB g) = true by simp [hw1]] at HF
  have HAw := Lib.hid (fun W => awake_any W)
  have hE := tE hg
  have hX := folI_lt hg hw1
  have hl12 := (tx hg hX).2.1
  have HWs := Lib.hid (fun v W h => Words_ok g hg v l1 W h hw1)
  have HLn := Lib.hid (fun v W h => Length_ok g hg v l1 W h hw1)
  have hk4 := (tg hg).2.2.2.1
  have HSm := Lib.hid (fun a => shP_mem hg (ln g (folI g l1)) (folI g l1) hX (Nat.le_refl _) a)
  have hSl := shP_len hg hX
  have hSp := shP_pos hg hX
  have HFg : Hid (∀ v W, NatRows W v (shP g (ln g (folI g l1)) (folI g l1)) → Calls Try.prog 24 #[gV (kd g) (nm g), v] W fun e w' => e = .returned (.bool true) ∧ Below W.heap.size W w') := Lib.hid (fun v W h => by
    have h9 := fineL_any g hg v _ W h.ints (by simpa using hSl)
    rwa [show ((shP g (ln g (folI g l1)) (folI g l1)).map nats).all (wordB g) = true by
      rw [List.all_eq_true]
      intro z hz
      obtain ⟨y, hy, rfl⟩ := List.mem_map.1 hz
      have h8 := (shP_mem hg _ _ hX (Nat.le_refl _) y).1 hy
      exact word_nats h8.1 (by rw [h8.2.1]; omega)] at h9)
  generalize hXX : folI g l1 = X at *
  have HX := Lib.hid hXX
  clear hXX
  have HS0 := Lib.hid (srch_start (g := g) (L := shP g (ln g X) X) hSp)
  have HAl := Lib.hid (fun mt td n h e => Srch.all (g := g) (x := X) (mt := mt) (td := td) (n := n) hg hX h e)
  have HRi : Hid (Ris (shP g (ln g X) X)) := Lib.hid (shP_ris _ _)
  obtain ⟨m, hm⟩ : ∃ m, m = ln g X := ⟨_, rfl⟩
  have HM := Lib.hid hm
  rw [← hm] at hl12 HLn
  have HXl := Lib.hid hX
  have hw1' := hw1
  clear hm
  generalize hsp : shP g (ln g X) X = sp at *
  clear hsp
  obtain ⟨sl, hsl⟩ : ∃ sl, sl = sp.length := ⟨_, rfl⟩
  rw [← hsl] at HWs hSl hSp
  have hsl0 : ((sl : Int) == 0) = false := beq_eq_false_iff_ne.2 (by omega)
  have HSL := Lib.hid hsl
  clear hsl
  obtain ⟨va1, vc1, rfl, _, _, _⟩ := h1.open
  obtain ⟨va2, vc2, rfl, _, _, _⟩ := h2.open
  have H10 := Lib.hid h1
  have H20 := Lib.hid h2
  clear h1 h2 hw1
  obtain ⟨i4, hi4, hz0, hz1, hz2⟩ := info_parts Try.info4

  go_enter Try.func10, Try.ntmps10
  go_wp2_with fail
  refine (HOf.out _).mono ?_
  rintro e w1 ⟨rfl, hb⟩
  have HG : Hid (Blk 23 w1 w.heap.size #[.int .u8 (kd g), .int .i64 (nm g)]) := Lib.hid ((Blk.new _ _ _).below hb)
  have HB : Hid (Below w.heap.size w w1) := Lib.hid (bl1 hb)
  have H1 := Lib.hid (H10.out.below HB.out (Nat.le_refl _))
  have H2 := Lib.hid (H20.out.below HB.out (Nat.le_refl _))
  clear hb H10 H20
  have g0 := HG.out.at0.1
  have g1 := HG.out.at0.2
  go_wp2_with fail
  clear g0 g1
  refine (HLi.out _ _ H1.out).mono ?_
  rintro e w2 ⟨la, lc, rfl, hm1, hb⟩
  have HBn : Hid (Below w1.heap.size w1 w2) := Lib.hid (hb)
  have HG_n := Lib.hid (HG.out.below HBn.out)
  have H1_n := Lib.hid (H1.out.below HBn.out (Nat.le_refl _))
  have H2_n := Lib.hid (H2.out.below HBn.out (Nat.le_refl _))
  have HB_n := Lib.hid (HB.out.trans (HBn.out.mono HB.out.size))
  clear HG H1 H2 HB
  have HG := HG_n
  have H1 := H1_n
  have H2 := H2_n
  have HB := HB_n
  clear HG_n H1_n H2_n HB_n HBn hb
  have HM1 := Lib.hid hm1
  clear hm1
  have g0 := HG.out.at0.1
  have g1 := HG.out.at0.2
  go_wp2_with fail
  clear g0 g1
  refine (HWs.out _ _ HM1.out).mono ?_
  rintro e w3 ⟨sa, sc, rfl, hsw, hb⟩
  have HBn : Hid (Below w2.heap.size w2 w3) := Lib.hid (hb)
  have HG_n := Lib.hid (HG.out.below HBn.out)
  have H1_n := Lib.hid (H1.out.below HBn.out (Nat.le_refl _))
  have H2_n := Lib.hid (H2.out.below HBn.out (Nat.le_refl _))
  have HM1_n := Lib.hid (HM1.out.below HBn.out (Nat.le_refl _))
  have HB_n := Lib.hid (HB.out.trans (HBn.out.mono HB.out.size))
  clear HG H1 H2 HM1 HB
  have HG := HG_n
  have H1 := H1_n
  have H2 := H2_n
  have HM1 := HM1_n
  have HB := HB_n
  clear HG_n H1_n H2_n HM1_n HB_n HBn hb
  have HSW := Lib.hid hsw
  clear hsw
  have g0 := HG.out.at0.1
  have g1 := HG.out.at0.2
  go_wp2_with fail
  clear HM1
  clear g0 g1
  refine (HF.out _ _ (rows1 (Blk.new _ _ _) (H1.out.alloc _))).mono ?_
  rintro e w4 ⟨rfl, hb⟩
  have HBn : Hid (Below w3.heap.size w3 w4) := Lib.hid (bl1 hb)
  have HG_n := Lib.hid (HG.out.below HBn.out)
  have H1_n := Lib.hid (H1.out.below HBn.out (Nat.le_refl _))
  have H2_n := Lib.hid (H2.out.below HBn.out (Nat.le_refl _))
  have HSW_n := Lib.hid (HSW.out.below HBn.out (Nat.le_refl _))
  have HB_n := Lib.hid (HB.out.trans (HBn.out.mono HB.out.size))
  clear HG H1 H2 HSW HB
  have HG := HG_n
  have H1 := H1_n
  have H2 := H2_n
  have HSW := HSW_n
  have HB := HB_n
  clear HG_n H1_n H2_n HSW_n HB_n HBn hb
  have g0 := HG.out.at0.1
  have g1 := HG.out.at0.2
  go_wp2_with fail
  have hmk := run_makeBL sl hSl
  have hbz : (bools sl fun _ => false)[0]? = some (.bool false) := bools_get _ hSp
  clear g0 g1
  refine (HFg.out _ _ HSW.out).mono ?_
  rintro e w5 ⟨rfl, hb⟩
  have HBn : Hid (Below w4.heap.size w4 w5) := Lib.hid (hb)
  have HG_n := Lib.hid (HG.out.below HBn.out)
  have H1_n := Lib.hid (H1.out.below HBn.out (Nat.le_refl _))
  have H2_n := Lib.hid (H2.out.below HBn.out (Nat.le_refl _))
  have HSW_n := Lib.hid (HSW.out.below HBn.out (Nat.le_refl _))
  have HB_n := Lib.hid (HB.out.trans (HBn.out.mono HB.out.size))
  clear HG H1 H2 HSW HB
  have HG := HG_n
  have H1 := H1_n
  have H2 := H2_n
  have HSW := HSW_n
  have HB := HB_n
  clear HG_n H1_n H2_n HSW_n HB_n HBn hb
  have g0 := HG.out.at0.1
  have g1 := HG.out.at0.2
  go_wp2_with fail
  clear g0 g1 hmk hbz
  have hlen := HS0.out.len
  obtain ⟨_, _, e, hscap, _, hsx⟩ := SlOf.open HSW.out
  simp only [Value.slice.injEq] at e
  obtain ⟨rfl, -, rfl⟩ := e
  have HSX := Lib.hid hsx
  rw [← HSL.out] at hscap
  clear hsx
  go_loopw [11, 10] (fun i v wr => ∃ (n : Nat) (td : List Nat) (mt : Nat → Bool) (b c : Nat), i = .int .i64 n ∧ v = .slice (some ⟨b, 0, none⟩) td.length c ∧ wr.ownsRow (w5.heap.size + 1) 3 1 v td.length (ints (nats td)) ∧ OwnB wr w5.heap.size w5.heap.size sl sl mt ∧ Hid (Srch g sp mt td n) ∧ Below w5.heap.size w5 wr) (fun i _ _ => sl - (intOf i).toNat)
  case atStart =>
    refine ⟨0, [0], fun j => j == 0, _, 1, rfl, rfl, ?_, ?_, HS0, ?_⟩
    · have h9 := World.ownsRow_lit (base := w5.heap.size + 1) (e := 3) (size := 1) (w5.alloc (.cells ((bools sl fun _ => false).set 0 (.bool true)).toArray 4)) #[.int .i64 0] 1 (by simp) (by unfold maxLen; omega) (by simp)
      simpa [ints, nats] using h9
    · exact (ownB_firstL sl hSl w5).alloc _
    · exact a2 w5 _ _
  case round =>
    obtain ⟨n, td, mt, b, c, rfl, rfl, ho, hO, hS, hb⟩ := hrel
    have hle := hS.out.len
    have hnl := hS.out.le
    rw [← HSL.out] at hle
    by_cases hlt : n < td.length
    · obtain ⟨q, hq⟩ : ∃ q, q = td.getD n 0 := ⟨_, rfl⟩
      have hqs : q < sl := by
        have h9 := hS.out.lt q (by rw [hq]; exact natD_mem hlt)
        rw [HSL.out]; exact h9
      have HQ := Lib.hid hq
      have c10 : wr.cell? ⟨b, n, none⟩ = some (.int .i64 (q : Nat)) := by
        have h9 := World.ownsRow.cellAt ho n (by omega)
        rw [h9, hq]
        simp [ints, nats, List.getElem?_eq_getElem hlt, List.getD_eq_getElem?_getD]
      have hcap := own_cap ho
      obtain ⟨x, hx⟩ : ∃ x, sp[q]? = some x := ⟨sp[q]'(by rw [← HSL.out]; exact hqs), by simp⟩
      have hxs := (HSm.out x).1 (List.mem_of_getElem? hx)
      have hxD : sp.getD q [] = x := by rw [List.getD_eq_getElem?_getD, hx]; rfl
      obtain ⟨xb, xo, xu, rfl, hck, hxu⟩ := HSX.out q x hx
      have cl := ck hck hb
      have HXU := Lib.hid hxu
      have HXS := Lib.hid hxs
      have HXD := Lib.hid hxD
      have hxl : x.length = m := by rw [hxs.2.1, ← HM.out]
      obtain ⟨xa, xc, rfl, hxcap, _, hxx⟩ := Nats.open hxu
      rw [hxl] at cl hxcap hxx
      have HXX := Lib.hid hxx
      have HXL := Lib.hid hxl
      have HO := Lib.hid ho
      have HOB := Lib.hid hO
      have HBr := Lib.hid hb
      clear hq hx hxs hxD hck hxu hxx ho hO hb hxl
      go_wp2_with fail
      clear c10 cl
      go_loopw [86, 10] (fun i v wi => ∃ (p : Nat) (te : List Nat) (mt : Nat → Bool) (b c : Nat), p ≤ m ∧ i = .int .i64 p ∧ v = .slice (some ⟨b, 0, none⟩) te.length c ∧ wi.ownsRow (w5.heap.size + 1) 3 1 v te.length (ints (nats te)) ∧ OwnB wi w5.heap.size w5.heap.size sl sl mt ∧ Hid (Srch g sp mt te n) ∧ Hid (n < te.length ∧ te.getD n 0 = q) ∧ Hid (∀ r, r < p → ClP g sp te x r) ∧ Below w5.heap.size w5 wi) (fun i _ _ => m - (intOf i).toNat)
      case atStart =>
        exact ⟨0, td, mt, b, c, Nat.zero_le _, rfl, rfl, HO.out, HOB.out, hS, Lib.hid ⟨hlt, HQ.out.symm⟩, Lib.hid fun r hr => absurd hr (Nat.not_lt_zero _), HBr.out⟩
      case round =>
        rename World => wi
        clear HO HOB HQ hS hle hnl hlt hcap
        obtain ⟨p, te, me, b, c, hp, rfl, rfl, ho, hO, hS, hQ, hC, hb⟩ := hrel
        have HO := Lib.hid ho
        have HOB := Lib.hid hO
        have HB5 := Lib.hid hb
        have hcap := own_cap ho
        have hle := hS.out.len
        rw [← HSL.out] at hle
        clear ho hO hb
        by_cases hpm : p < m
        · by_cases hp1 : p + 1 < m
          · obtain ⟨yb, yo, e1, cx0⟩ := HXX.out p hpm
            obtain ⟨yb2, yo2, e2, cx1⟩ := HXX.out (p + 1) hp1
            subst e1
            simp only [Option.some.injEq, Addr.mk.injEq, and_true] at e2
            obtain ⟨rfl, rfl⟩ := e2
            have cx0 := ck cx0 HB5.out
            have cx1 := ck cx1 HB5.out
            have g0 := ck HG.out.at0.1 HB5.out
            have g1 := ck HG.out.at0.2 HB5.out
            have hsl : p < x.length := by rw [HXL.out]; exact hpm
            have hsl1 : p + 1 < x.length := by rw [HXL.out]; exact hp1
            have hsk := HXS.out.1 _ (natD_mem hsl)
            have huk := HXS.out.1 _ (natD_mem hsl1)
            have HWd : Hid (∀ W, Below wi.heap.size wi W → Calls Try.prog 35 #[gV (kd g) (nm g), .slice (some ⟨yb, yo, none⟩) m xc] W fun e w' => e = .returned (.bool true) ∧ Below W.heap.size W w') := Lib.hid (fun W hb => by
              have h8 : Ints wi (.slice (some ⟨yb, yo, none⟩) m xc) (nats x) := by have := Ints.below HXU.out HB5.out (Nat.le_refl _); rwa [HXL.out] at this
              have h9 := Word_any g hg _ (nats x) W (Ints.below h8 hb (Nat.le_refl _))
              rwa [word_nats HXS.out.1 (by rw [HXL.out]; omega)] at h9)
            have HOV := Lib.hid (ovr_short (p := p) hg HXS.out hsl1)
            have HCP : Hid (∀ tf, (∀ i, i ∈ te → i ∈ tf) → (x.getD p 0 ≠ x.getD (p + 1) 0 → p + ordN g (x.getD p 0) (x.getD (p + 1) 0) ≤ m → (∀ c, c < ordN g (x.getD p 0) (x.getD (p + 1) 0) → x.getD (p + c) 0 = x.getD (p + c % 2) 0) → ∃ i, i ∈ tf ∧ sp.getD i [] = ovr x p (ordN g (x.getD p 0) (x.getD (p + 1) 0))) → ∀ r, r < p + 1 → ClP g sp tf x r) := Lib.hid fun tf htf h r hr => by
              by_cases e : r = p
              · intro _ a9 b9 c9
                rw [HXL.out] at b9
                rw [e] at a9 b9 c9 ⊢
                exact h a9 b9 c9
              · exact (hC.out r (by omega)).mono htf
            rw [HXL.out] at HOV
            obtain ⟨K, hK⟩ : ∃ K, K = ordN g (x.getD p 0) (x.getD (p + 1) 0) := ⟨_, rfl⟩
            have HK2 : Hid (x.getD p 0 ≠ x.getD (p + 1) 0 → 2 ≤ K ∧ K ≤ 12) := Lib.hid (fun hne => by
              have := rule_ok hg hE.1 hsk huk hne
              rw [hK]; exact ⟨this.2.1, this.2.2.1⟩)
            have HOr2 : Hid (x.getD p 0 ≠ x.getD (p + 1) 0 → ∀ W, Calls Try.prog 56 #[gV (kd g) (nm g), .int .i64 (x.getD p 0 : Nat), .int .i64 (x.getD (p + 1) 0 : Nat)] W fun e w' => e = .returned (.int .i64 (K : Nat)) ∧ Below W.heap.size W w') := Lib.hid fun hne W => by
              rw [hK]; exact order_any g _ _ hg (by omega) (by omega) hne W
            rw [← hK] at HOV HCP
            obtain ⟨d, hd⟩ : ∃ d, d = (((x.getD p 0 : Nat) : Int) == ((x.getD (p + 1) 0 : Nat) : Int)) := ⟨_, rfl⟩
            have hd' := hd.symm
            have HD : Hid (d = true ↔ x.getD p 0 = x.getD (p + 1) 0) := Lib.hid (by rw [hd, beq_iff_eq]; omega)
            obtain ⟨s, hs⟩ : ∃ s, s = x.getD p 0 := ⟨_, rfl⟩
            obtain ⟨u, hu⟩ : ∃ u, u = x.getD (p + 1) 0 := ⟨_, rfl⟩
            rw [← hs, ← hu] at HOr2 hd' HD HCP HOV HK2
            rw [← hs] at cx0
            rw [← hu] at cx1
            have HKS : Hid (∀ W, Below wi.heap.size wi W → (W.cell? ⟨w.heap.size, 0, none⟩ = some (.int .u8 (kd g)) ∧ W.cell? ⟨w.heap.size, 1, none⟩ = some (.int .i64 (nm g)) ∧ W.cell? ⟨yb, yo + p, none⟩ = some (.int .i64 (s : Nat)) ∧ W.cell? ⟨yb, yo + (p + 1), none⟩ = some (.int .i64 (u : Nat)))) :=
              Lib.hid (fun W hb => ⟨ck g0 hb, ck g1 hb, ck cx0 hb, ck cx1 hb⟩)
            clear hs hu hd hsl hsl1 hsk huk cx0 cx1 g0 g1 hK
            have hwp : IntKind.i64.wrap ((p:Int) + 1) = (p:Int) + 1 := IntWalk.i64_in _ (by omega)
            have hge : ¬ (m:Int) ≤ (p:Int) + 1 := by omega
            go_wp2_with fail
            refine wp_region_held_drew (S := fun W => W.cell? ⟨w.heap.size, 0, none⟩ = some (.int .u8 (kd g)) ∧ W.cell? ⟨w.heap.size, 1, none⟩ = some (.int .i64 (nm g)) ∧ W.cell? ⟨yb, yo + p, none⟩ = some (.int .i64 (s : Nat)) ∧ W.cell? ⟨yb, yo + (p + 1), none⟩ = some (.int .i64 (u : Nat))) (by kernel_rfl) (HKS.out _ (below_drew (Below.refl _ _))) (fun hS0 => ?_)
            have hBd : Below wi.heap.size wi wi.drew := below_drew (Below.refl _ _)
            refine tk0 (v := (.int .i64 p)) (by kernel_rfl) (by kernel_rfl) (by kernel_rfl) (fun _ _ _ h => h) (Or.inl ⟨by kernel_rfl, fun w' hSw => by go_simp⟩) hS0 ?_
            try simp only [Act.put, List.setIfInBounds_toArray, List.set_cons_zero, List.set_cons_succ]
            refine tk1 (v := (.int .i64 ((p : Int) + 1))) (by kernel_rfl) (by kernel_rfl) (by kernel_rfl) (fun _ _ _ h => h) (Or.inl ⟨by kernel_rfl, fun w' hSw => by go_simp⟩) hS0 ?_
            try simp only [Act.put, List.setIfInBounds_toArray, List.set_cons_zero, List.set_cons_succ]
            refine tk2 (v := (.slice (some ⟨yb, yo, none⟩) m xc)) (by kernel_rfl) (by kernel_rfl) (by kernel_rfl) (fun _ _ _ h => h) (Or.inl ⟨by kernel_rfl, fun w' hSw => by go_simp⟩) hS0 ?_
            try simp only [Act.put, List.setIfInBounds_toArray, List.set_cons_zero, List.set_cons_succ]
            refine tk3 (v := (.int .i64 m)) (by kernel_rfl) (by kernel_rfl) (by kernel_rfl) (fun _ _ _ h => h) (Or.inl ⟨by kernel_rfl, fun w' hSw => by go_simp⟩) hS0 ?_
            try simp only [Act.put, List.setIfInBounds_toArray, List.set_cons_zero, List.set_cons_succ]
            refine tk4 (v := (.bool false)) (by kernel_rfl) (by kernel_rfl) (by kernel_rfl) (fun _ _ _ h => h) (Or.inl ⟨by kernel_rfl, fun w' hSw => by go_simp⟩) hS0 ?_
            try simp only [Act.put, List.setIfInBounds_toArray, List.set_cons_zero, List.set_cons_succ]
            refine tk5 (v := (.bool false)) (by kernel_rfl) (by kernel_rfl) (by kernel_rfl) (fun _ _ _ h => h) (Or.inl ⟨by kernel_rfl, fun w' hSw => by go_simp⟩) hS0 ?_
            try simp only [Act.put, List.setIfInBounds_toArray, List.set_cons_zero, List.set_cons_succ]
            refine tk6 (v := (gV (kd g) (nm g))) (by kernel_rfl) (by kernel_rfl) (by kernel_rfl) (fun _ _ _ h => h) (Or.inl ⟨by kernel_rfl, fun w' hSw => by have h0 := hSw.1; have h1 := hSw.2.1; go_simp⟩) hS0 ?_
            try simp only [Act.put, List.setIfInBounds_toArray, List.set_cons_zero, List.set_cons_succ]
            refine tk7 (v := (.slice (some ⟨yb, yo, none⟩) m xc)) (by kernel_rfl) (by kernel_rfl) (by kernel_rfl) (fun _ _ _ h => h) (Or.inl ⟨by kernel_rfl, fun w' hSw => by go_simp⟩) hS0 ?_
            try simp only [Act.put, List.setIfInBounds_toArray, List.set_cons_zero, List.set_cons_succ]
            refine wpAnyH_ready (rs := [8]) (by kernel_rfl) (by simp) (AllReadyH.cons rfl (fun KK hKK => ?_) AllReadyH.nil)
            go_simp
            refine (HWd.out _ hBd).mono ?_
            rintro e wv ⟨rfl, hbv⟩
            have hBv : Below wi.heap.size wi wv := hBd.trans (hbv.mono hBd.size)
            refine hKK.out _ _ (HKS.out _ hBv) fun _ => ?_
            clear hKK
            have hSv := HKS.out _ hBv
            refine tk9 (v := (.bool false)) (by kernel_rfl) (by kernel_rfl) (by kernel_rfl) (fun _ _ _ h => h) (Or.inl ⟨by kernel_rfl, fun w' hSw => by go_simp⟩) hSv ?_
            try simp only [Act.put, List.setIfInBounds_toArray, List.set_cons_zero, List.set_cons_succ]
            refine tk10 (v := (.bool false)) (by kernel_rfl) (by kernel_rfl) (by kernel_rfl) (fun _ _ _ h => h) (Or.inl ⟨by kernel_rfl, fun w' hSw => by go_simp⟩) hSv ?_
            try simp only [Act.put, List.setIfInBounds_toArray, List.set_cons_zero, List.set_cons_succ]
            refine tk11 (v := (.bool false)) (by kernel_rfl) (by kernel_rfl) (by kernel_rfl) (fun _ _ _ h => h) (Or.inl ⟨by kernel_rfl, fun w' hSw => by go_simp⟩) hSv ?_
            try simp only [Act.put, List.setIfInBounds_toArray, List.set_cons_zero, List.set_cons_succ]
            refine tk12 (v := (.slice (some ⟨yb, yo, none⟩) m xc)) (by kernel_rfl) (by kernel_rfl) (by kernel_rfl) (fun _ _ _ h => h) (Or.inl ⟨by kernel_rfl, fun w' hSw => by go_simp⟩) hSv ?_
            try simp only [Act.put, List.setIfInBounds_toArray, List.set_cons_zero, List.set_cons_succ]
            refine tk13 (v := (.int .i64 p)) (by kernel_rfl) (by kernel_rfl) (by kernel_rfl) (fun _ _ _ h => h) (Or.inl ⟨by kernel_rfl, fun w' hSw => by go_simp⟩) hSv ?_
            try simp only [Act.put, List.setIfInBounds_toArray, List.set_cons_zero, List.set_cons_succ]
            refine tk14 (v := (.pointer (some ⟨yb, yo + p, none⟩))) (by kernel_rfl) (by kernel_rfl) (by kernel_rfl) (fun _ _ _ h => h) (Or.inl ⟨by kernel_rfl, fun w' hSw => by go_simp⟩) hSv ?_
            try simp only [Act.put, List.setIfInBounds_toArray, List.set_cons_zero, List.set_cons_succ]
            refine tk15 (v := (.int .i64 (s : Nat))) (by kernel_rfl) (by kernel_rfl) (by kernel_rfl) (fun _ _ _ h => h) (Or.inl ⟨by kernel_rfl, fun w' hSw => by have h0 := hSw.2.2.1; go_simp⟩) hSv ?_
            try simp only [Act.put, List.setIfInBounds_toArray, List.set_cons_zero, List.set_cons_succ]
            refine tk16 (v := (.slice (some ⟨yb, yo, none⟩) m xc)) (by kernel_rfl) (by kernel_rfl) (by kernel_rfl) (fun _ _ _ h => h) (Or.inl ⟨by kernel_rfl, fun w' hSw => by go_simp⟩) hSv ?_
            try simp only [Act.put, List.setIfInBounds_toArray, List.set_cons_zero, List.set_cons_succ]
            refine tk17 (v := (.int .i64 p)) (by kernel_rfl) (by kernel_rfl) (by kernel_rfl) (fun _ _ _ h => h) (Or.inl ⟨by kernel_rfl, fun w' hSw => by go_simp⟩) hSv ?_
            try simp only [Act.put, List.setIfInBounds_toArray, List.set_cons_zero, List.set_cons_succ]
            refine tk18 (v := (.int .i64 ((p : Int) + 1))) (by kernel_rfl) (by kernel_rfl) (by kernel_rfl) (fun _ _ _ h => h) (Or.inl ⟨by kernel_rfl, fun w' hSw => by go_simp⟩) hSv ?_
            try simp only [Act.put, List.setIfInBounds_toArray, List.set_cons_zero, List.set_cons_succ]
            refine tk19 (v := (.pointer (some ⟨yb, yo + (p + 1), none⟩))) (by kernel_rfl) (by kernel_rfl) (by kernel_rfl) (fun _ _ _ h => h) (Or.inl ⟨by kernel_rfl, fun w' hSw => by go_simp <;> (intro hh; omega)⟩) hSv ?_
            try simp only [Act.put, List.setIfInBounds_toArray, List.set_cons_zero, List.set_cons_succ]
            refine tk20 (v := (.int .i64 (u : Nat))) (by kernel_rfl) (by kernel_rfl) (by kernel_rfl) (fun _ _ _ h => h) (Or.inl ⟨by kernel_rfl, fun w' hSw => by have h0 := hSw.2.2.2; go_simp⟩) hSv ?_
            try simp only [Act.put, List.setIfInBounds_toArray, List.set_cons_zero, List.set_cons_succ]
            refine tk21 (v := (.bool d)) (by kernel_rfl) (by kernel_rfl) (by kernel_rfl) (fun _ _ _ h => h) (Or.inl ⟨by kernel_rfl, fun w' hSw => by go_simp⟩) hSv ?_
            try simp only [Act.put, List.setIfInBounds_toArray, List.set_cons_zero, List.set_cons_succ]
            refine tk22 (v := (.bool d)) (by kernel_rfl) (by kernel_rfl) (by kernel_rfl) (fun _ _ _ h => h) (Or.inl ⟨by kernel_rfl, fun w' hSw => by go_simp⟩) hSv ?_
            try simp only [Act.put, List.setIfInBounds_toArray, List.set_cons_zero, List.set_cons_succ]
            refine wpAnyH_done (by kernel_rfl) ?_ _
            have HB5v : Hid (Below w5.heap.size w5 wv) := Lib.hid (HB5.out.trans (hBv.mono HB5.out.size))
            have HOv := Lib.hid (owns_below HO.out hBv (Nat.le_refl _))
            have HOBv := Lib.hid (HOB.out.below hBv (Nat.le_refl _))
            have HKS2 : Hid (∀ W, Below wv.heap.size wv W → (W.cell? ⟨w.heap.size, 0, none⟩ = some (.int .u8 (kd g)) ∧ W.cell? ⟨w.heap.size, 1, none⟩ = some (.int .i64 (nm g)) ∧ W.cell? ⟨yb, yo + p, none⟩ = some (.int .i64 (s : Nat)) ∧ W.cell? ⟨yb, yo + (p + 1), none⟩ = some (.int .i64 (u : Nat)))) :=
              Lib.hid (fun W hb => HKS.out W (hBv.trans (hb.mono hBv.size)))
            clear hS0 hBd hbv hBv hSv HO HOB HB5 HWd HKS
            cases d with
            | true =>
              have hC2 := Lib.hid (HCP.out te (fun _ h => h) fun hne => absurd (HD.out.1 rfl) hne)
              clear HCP HOV HD HK2 HOr2 hC HKS2 hd'
              go_wp2_with fail
              go_roundw
              case rel => exact ⟨p + 1, te, me, b, c, by omega, by go_num, rfl, HOv.out, HOBv.out, hS, hQ, hC2, HB5v.out⟩
              case measure => simp [intOf]; omega
            | false =>
              have hne : s ≠ u := fun e => by have := HD.out.2 e; cases this
              obtain ⟨hk2, hk12⟩ := HK2.out hne
              have HOr3 := Lib.hid (HOr2.out hne)
              have HNE := Lib.hid hne
              clear HOr2 HK2 HD hd' hne
              go_wp2_with fail
              refine wp_region_held_drew (S := fun W => W.cell? ⟨w.heap.size, 0, none⟩ = some (.int .u8 (kd g)) ∧ W.cell? ⟨w.heap.size, 1, none⟩ = some (.int .i64 (nm g)) ∧ W.cell? ⟨yb, yo + p, none⟩ = some (.int .i64 (s : Nat)) ∧ W.cell? ⟨yb, yo + (p + 1), none⟩ = some (.int .i64 (u : Nat))) (by kernel_rfl) (HKS2.out _ (below_drew (Below.refl _ _))) (fun hS0 => ?_)
              have hBd : Below wv.heap.size wv wv.drew := below_drew (Below.refl _ _)
              refine tk0 (v := (gV (kd g) (nm g))) (by kernel_rfl) (by kernel_rfl) (by kernel_rfl) (fun _ _ _ h => h) (Or.inl ⟨by kernel_rfl, fun w' hSw => by have h0 := hSw.1; have h1 := hSw.2.1; go_simp⟩) hS0 ?_
              try simp only [Act.put, List.setIfInBounds_toArray, List.set_cons_zero, List.set_cons_succ]
              refine tk1 (v := (.slice (some ⟨yb, yo, none⟩) m xc)) (by kernel_rfl) (by kernel_rfl) (by kernel_rfl) (fun _ _ _ h => h) (Or.inl ⟨by kernel_rfl, fun w' hSw => by go_simp⟩) hS0 ?_
              try simp only [Act.put, List.setIfInBounds_toArray, List.set_cons_zero, List.set_cons_succ]
              refine tk2 (v := (.int .i64 p)) (by kernel_rfl) (by kernel_rfl) (by kernel_rfl) (fun _ _ _ h => h) (Or.inl ⟨by kernel_rfl, fun w' hSw => by go_simp⟩) hS0 ?_
              try simp only [Act.put, List.setIfInBounds_toArray, List.set_cons_zero, List.set_cons_succ]
              refine tk3 (v := (.pointer (some ⟨yb, yo + p, none⟩))) (by kernel_rfl) (by kernel_rfl) (by kernel_rfl) (fun _ _ _ h => h) (Or.inl ⟨by kernel_rfl, fun w' hSw => by go_simp⟩) hS0 ?_
              try simp only [Act.put, List.setIfInBounds_toArray, List.set_cons_zero, List.set_cons_succ]
              refine tk4 (v := (.int .i64 (s : Nat))) (by kernel_rfl) (by kernel_rfl) (by kernel_rfl) (fun _ _ _ h => h) (Or.inl ⟨by kernel_rfl, fun w' hSw => by have h0 := hSw.2.2.1; go_simp⟩) hS0 ?_
              try simp only [Act.put, List.setIfInBounds_toArray, List.set_cons_zero, List.set_cons_succ]
              refine tk5 (v := (.slice (some ⟨yb, yo, none⟩) m xc)) (by kernel_rfl) (by kernel_rfl) (by kernel_rfl) (fun _ _ _ h => h) (Or.inl ⟨by kernel_rfl, fun w' hSw => by go_simp⟩) hS0 ?_
              try simp only [Act.put, List.setIfInBounds_toArray, List.set_cons_zero, List.set_cons_succ]
              refine tk6 (v := (.int .i64 p)) (by kernel_rfl) (by kernel_rfl) (by kernel_rfl) (fun _ _ _ h => h) (Or.inl ⟨by kernel_rfl, fun w' hSw => by go_simp⟩) hS0 ?_
              try simp only [Act.put, List.setIfInBounds_toArray, List.set_cons_zero, List.set_cons_succ]
              refine tk7 (v := (.int .i64 ((p : Int) + 1))) (by kernel_rfl) (by kernel_rfl) (by kernel_rfl) (fun _ _ _ h => h) (Or.inl ⟨by kernel_rfl, fun w' hSw => by go_simp⟩) hS0 ?_
              try simp only [Act.put, List.setIfInBounds_toArray, List.set_cons_zero, List.set_cons_succ]
              refine tk8 (v := (.pointer (some ⟨yb, yo + (p + 1), none⟩))) (by kernel_rfl) (by kernel_rfl) (by kernel_rfl) (fun _ _ _ h => h) (Or.inl ⟨by kernel_rfl, fun w' hSw => by go_simp <;> (intro hh; omega)⟩) hS0 ?_
              try simp only [Act.put, List.setIfInBounds_toArray, List.set_cons_zero, List.set_cons_succ]
              refine tk9 (v := (.int .i64 (u : Nat))) (by kernel_rfl) (by kernel_rfl) (by kernel_rfl) (fun _ _ _ h => h) (Or.inl ⟨by kernel_rfl, fun w' hSw => by have h0 := hSw.2.2.2; go_simp⟩) hS0 ?_
              try simp only [Act.put, List.setIfInBounds_toArray, List.set_cons_zero, List.set_cons_succ]
              refine wpAnyH_ready (rs := [10]) (by kernel_rfl) (by simp) (AllReadyH.cons rfl (fun KK hKK => ?_) AllReadyH.nil)
              go_simp
              refine (HOr3.out _).mono ?_
              rintro e wu ⟨rfl, hbu⟩
              have hBu : Below wv.heap.size wv wu := hBd.trans (hbu.mono hBd.size)
              have hSu := HKS2.out _ hBu
              refine hKK.out _ _ hSu fun _ => ?_
              clear hKK
              refine tk11 (v := (.int .i64 (K : Nat))) (by kernel_rfl) (by kernel_rfl) (by kernel_rfl) (fun _ _ _ h => h) (Or.inl ⟨by kernel_rfl, fun w' hSw => by go_simp⟩) hSu ?_
              try simp only [Act.put, List.setIfInBounds_toArray, List.set_cons_zero, List.set_cons_succ]
              refine wpAnyH_done (by kernel_rfl) ?_ _
              have HB5u : Hid (Below w5.heap.size w5 wu) := Lib.hid (HB5v.out.trans (hBu.mono HB5v.out.size))
              have HOu := Lib.hid (owns_below HOv.out hBu (Nat.le_refl _))
              have HOBu := Lib.hid (HOBv.out.below hBu (Nat.le_refl _))
              clear hS0 hBd hbu hBu hSu HOv HOBv HB5v HKS2 HOr3
              by_cases hpk : p + K ≤ m
              · have hpk1 : ¬ (m:Int) < (p:Int) + K := by omega
                have hm0 : 0 < m := by omega
                have HCo := Lib.hid (clone1_any (.slice (some ⟨yb, yo, none⟩) x.length xc) (nats x) wu (Ints.below HXU.out HB5u.out (Nat.le_refl _)))
                rw [nats_length, HXL.out] at HCo
                go_wp2_with fail
                refine HCo.out.mono ?_
                rintro e wc ⟨ya, yc2, rfl, hown, hb⟩
                obtain ⟨cb, cc, e3, hcc⟩ := own_lit hown hm0
                simp only [Value.slice.injEq, true_and] at e3
                obtain ⟨rfl, rfl⟩ := e3
                have HY : Hid (wc.ownsRow wu.heap.size 3 1 (.slice (some ⟨cb, 0, none⟩) m yc2) m (ints (nats (ovc x p 0)))) := Lib.hid (by rw [ovc_zero]; exact hown)
                have HBc := Lib.hid hb
                clear hown hb HCo
                go_wp2_with fail
                go_loopw [132, 16] (fun i o wk => ∃ k9 : Nat, k9 ≤ K ∧ i = .int .i64 k9 ∧ (∃ o' : Bool, o = .bool o' ∧ Hid (o' = true ↔ ∀ e, e < k9 → x.getD (p + e) 0 = x.getD (p + e % 2) 0)) ∧ wk.ownsRow wu.heap.size 3 1 (.slice (some ⟨cb, 0, none⟩) m yc2) m (ints (nats (ovc x p k9))) ∧ Below wu.heap.size wu wk) (fun i _ _ => K - (intOf i).toNat)
                case atStart => exact ⟨0, Nat.zero_le _, rfl, ⟨true, rfl, Lib.hid ⟨fun _ e he => absurd he (Nat.not_lt_zero _), fun _ => rfl⟩⟩, HY.out, HBc.out⟩
                case round =>
                  rename World => wk
                  clear HY HBc
                  obtain ⟨k9, hk9, rfl, ⟨o, rfl, hO9⟩, hY, hb⟩ := hrel
                  have HYk := Lib.hid hY
                  have HBk := Lib.hid hb
                  have HB5k : Hid (Below w5.heap.size w5 wk) := Lib.hid (HB5u.out.trans (hb.mono HB5u.out.size))
                  clear hY hb
                  by_cases hkl : k9 < K
                  · have hpc : p + k9 < m := by omega
                    obtain ⟨_, _, e4, d0⟩ := HXX.out (p + k9) hpc
                    simp only [Option.some.injEq, Addr.mk.injEq, and_true] at e4
                    obtain ⟨rfl, rfl⟩ := e4
                    obtain ⟨_, _, e5, d1⟩ := HXX.out (p + k9 % 2) (by omega)
                    simp only [Option.some.injEq, Addr.mk.injEq, and_true] at e5
                    obtain ⟨rfl, rfl⟩ := e5
                    obtain ⟨_, _, e6, d2⟩ := HXX.out (p + (k9 + 1) % 2) (by omega)
                    simp only [Option.some.injEq, Addr.mk.injEq, and_true] at e6
                    obtain ⟨rfl, rfl⟩ := e6
                    have d0 := ck d0 HB5k.out
                    have d1 := ck d1 HB5k.out
                    have d2 := ck d2 HB5k.out
                    have hov := ovc_succ x p k9 (by rw [HXL.out]; exact hpc)
                    have hst := (World.ownsRow.stored HYk.out (p + k9) (.int .i64 (x.getD (p + (k9 + 1) % 2) 0 : Nat))).1
                    rw [← ints_set, ← hov] at hst
                    have HST := Lib.hid hst
                    have t0 := World.ownsRow.cellAt HYk.out (p + k9) (by omega)
                    have t1 := World.ownsRow.frozenAt HYk.out (p + k9)
                    have hcb : wu.heap.size ≤ cb := (World.ownsRow.lt HYk.out cb rfl).1
                    have hcl : cb < wk.heap.size := (World.ownsRow.lt HYk.out cb rfl).2
                    have ht2 : (ints (nats (ovc x p k9)))[p + k9]? = some (.int .i64 ((ovc x p k9).getD (p + k9) 0 : Nat)) := by
                      have h8 : p + k9 < (ovc x p k9).length := by rw [ovc_len, HXL.out]; exact hpc
                      simp [ints, nats, List.getElem?_eq_getElem h8, List.getD_eq_getElem?_getD]
                    rw [ht2] at t0
                    generalize (ovc x p k9).getD (p + k9) 0 = zt at *
                    have hE9 : (∀ e, e < k9 + 1 → x.getD (p + e) 0 = x.getD (p + e % 2) 0) ↔ (∀ e, e < k9 → x.getD (p + e) 0 = x.getD (p + e % 2) 0) ∧ x.getD (p + k9) 0 = x.getD (p + k9 % 2) 0 :=
                      ⟨fun h => ⟨fun e he => h e (by omega), h k9 (by omega)⟩, fun h e he => by
                        by_cases q : e = k9
                        · rw [q]; exact h.2
                        · exact h.1 e (by omega)⟩
                    have HE9 := Lib.hid hE9
                    clear hE9 hov hst ht2
                    obtain ⟨d8, hd8⟩ : ∃ d8, d8 = (((x.getD (p + k9) 0 : Nat) : Int) == ((x.getD (p + k9 % 2) 0 : Nat) : Int)) := ⟨_, rfl⟩
                    have hd9 := hd8.symm
                    have HD8 : Hid (d8 = true ↔ x.getD (p + k9) 0 = x.getD (p + k9 % 2) 0) := Lib.hid (by rw [hd8, beq_iff_eq]; omega)
                    clear hd8
                    generalize x.getD (p + k9) 0 = za at *
                    generalize x.getD (p + k9 % 2) 0 = zb at *
                    generalize x.getD (p + (k9 + 1) % 2) 0 = zc at *
                    have hw1 : IntKind.i64.wrap ((p:Int) + (k9:Int)) = (p:Int) + (k9:Int) := IntWalk.i64_in _ (by omega)
                    have hw2 : IntKind.i64.wrap ((k9:Int) + 1) = (k9:Int) + 1 := IntWalk.i64_in _ (by omega)
                    have hr1 : (k9:Int).tmod 2 = ((k9 % 2 : Nat) : Int) := by rw [Int.tmod_eq_emod_of_nonneg (by omega)]; omega
                    have hr2 : ((k9:Int) + 1).tmod 2 = (((k9 + 1) % 2 : Nat) : Int) := by rw [Int.tmod_eq_emod_of_nonneg (by omega)]; omega
                    have hb2 : k9 % 2 < 2 := Nat.mod_lt _ (by decide)
                    have hb3 : (k9 + 1) % 2 < 2 := Nat.mod_lt _ (by decide)
                    generalize k9 % 2 = r2 at *
                    generalize (k9 + 1) % 2 = r3 at *
                    have hw3 : IntKind.i64.wrap ((p:Int) + (r2:Int)) = (p:Int) + (r2:Int) := IntWalk.i64_in _ (by omega)
                    have hw4 : IntKind.i64.wrap ((p:Int) + (r3:Int)) = (p:Int) + (r3:Int) := IntWalk.i64_in _ (by omega)
                    have HBc9 : Hid (∀ n v, Below wu.heap.size wu ((wk.drewN n).setCell ⟨cb, p + k9, none⟩ v)) := Lib.hid fun n v => below_cell (below_drewN HBk.out n) (a := ⟨cb, p + k9, none⟩) hcb v
                    cases o with
                    | true =>
                      have HO10 : Hid (d8 = true ↔ ∀ e, e < k9 + 1 → x.getD (p + e) 0 = x.getD (p + e % 2) 0) := Lib.hid (by rw [HE9.out, HD8.out]; exact ⟨fun h => ⟨hO9.out.1 rfl, h⟩, fun h => h.2⟩)
                      clear HE9 HD8 hO9 HYk HBk hcb hcl
                      go_wp2_with fail
                      go_quiet (fail)
                      go_wp2_with fail
                      go_roundw
                      case rel => exact ⟨k9 + 1, by omega, by go_num, ⟨d8, rfl, HO10⟩, HST.out, HBc9.out _ _⟩
                      case measure => simp [intOf]; omega
                    | false =>
                      have HO10 : Hid (false = true ↔ ∀ e, e < k9 + 1 → x.getD (p + e) 0 = x.getD (p + e % 2) 0) := Lib.hid (by rw [HE9.out]; exact ⟨fun h => (by cases h), fun h => hO9.out.2 h.1⟩)
                      clear HE9 HD8 hO9 HYk HBk hcb hcl hd9
                      go_wp2_with fail
                      go_quiet (fail)
                      go_wp2_with fail
                      go_roundw
                      case rel => exact ⟨k9 + 1, by omega, by go_num, ⟨false, rfl, HO10⟩, HST.out, HBc9.out _ _⟩
                      case measure => simp [intOf]; omega
                  · have hkk : k9 = K := by omega
                    have hnl9 : ¬ (k9 : Int) < (K : Int) := by omega
                    rw [hkk] at HYk hO9
                    have hy4 := ovc_lt (p := p) (c := K) (by decide : 0 < 4) (show ∀ z ∈ x, z < 4 from fun z hz => by have := HXS.out.1 z hz; omega)
                    have hyl : (ovc x p K).length = m := by rw [ovc_len, HXL.out]
                    have HNy : Hid (Nats wk (.slice (some ⟨cb, 0, none⟩) (ovc x p K).length yc2) (ovc x p K)) := Lib.hid (by
                      have h9 := HYk.out
                      rw [← hyl] at h9
                      exact owns_natsL h9 (by rw [hyl]; omega) fun z hz => by have := hy4 z hz; omega)
                    rw [hyl] at HNy
                    have hS4 : ∀ l ∈ sp, l.length = m ∧ ∀ z ∈ l, z < 4 := fun l hl => by
                      have h9 := (HSm.out l).1 hl
                      exact ⟨by rw [h9.2.1, ← HM.out], fun z hz => by have := h9.1 z hz; omega⟩
                    have hfd := ris_find (y := ovc x p K) (n := m) HRi.out (fun l hl => (hS4 l hl).1) hyl
                    have HSe := Lib.hid (search_any _ _ sp (ovc x p K) wk (HSW.out.below HB5k.out (Nat.le_refl _)) HNy.out (by rw [← HSL.out]; exact hSl) (fun l hl z hz => by have := (hS4 l hl).2 z hz; omega) (fun z hz => by have := hy4 z hz; omega) hfd.1)
                    have HFD := Lib.hid hfd.2
                    rw [← HSL.out] at HSe HFD
                    have hov : ovc x p K = ovr x p K := ovc_all x p K (by rw [HXL.out]; exact hpk)
                    have HIN : Hid (o = true → ovc x p K ∈ sp) := Lib.hid fun h => (HSm.out _).2 (by rw [hov]; exact HOV.out HNE.out hpk (hO9.out.1 h))
                    have HCQ : Hid (∀ tf, (∀ i, i ∈ te → i ∈ tf) → (∃ i, i ∈ tf ∧ sp.getD i [] = ovc x p K) → ∀ r, r < p + 1 → ClP g sp tf x r) := Lib.hid fun tf htf h => HCP.out tf htf fun _ _ _ => by rw [← hov]; exact h
                    have HCF : Hid (o = false → ∀ r, r < p + 1 → ClP g sp te x r) := Lib.hid fun h => HCP.out te (fun _ h => h) fun _ _ hall => by rw [hO9.out.2 hall] at h; cases h
                    obtain ⟨l0, hl0⟩ : ∃ l, sp[0]? = some l := ⟨sp[0]'(by rw [← HSL.out]; exact hSp), by simp⟩
                    obtain ⟨_, _, u0, e0, hck0, hu0⟩ := HSX.out 0 l0 hl0
                    simp only [Option.some.injEq, Addr.mk.injEq, and_true] at e0
                    obtain ⟨rfl, rfl⟩ := e0
                    obtain ⟨ua0, uc0, rfl, _, _, _⟩ := Nats.open hu0
                    rw [Nat.add_zero, (hS4 l0 (List.mem_of_getElem? hl0)).1] at hck0
                    have c0 := ck hck0 HB5k.out
                    have HOk := Lib.hid (owns_below HOu.out HBk.out (Nat.le_refl _))
                    have HOBk := Lib.hid (HOBu.out.below HBk.out (Nat.le_refl _))
                    clear hl0 hck0 hu0 hov hfd hy4 hyl hS4 hkk hkl hk9 HOV HCP HNE hC hO9 HYk HBk HNy HOu HOBu HB5u
                    generalize ovc x p K = y at *
                    go_wp2_with fail
                    refine HSe.out.mono ?_
                    clear HSe
                    rintro e w9 ⟨rfl, i, hi, hA, hB, rfl⟩
                    have HFi := Lib.hid (HFD.out i hi hA hB)
                    clear hA hB HFD
                    generalize (decide (i < sl) && (cmpL (sp.getD i []) y == 0)) = f at *
                    cases o with
                    | true =>
                      have hin := HIN.out rfl
                      have hf1 := HFi.out.1.2 hin
                      obtain ⟨hil, hie⟩ := HFi.out.2 hin
                      subst hf1
                      have HIE := Lib.hid hie
                      have hil2 : i < sp.length := by rw [← HSL.out]; exact hil
                      have cm := HOBk.out.cell hil
                      clear HIN HFi hin hie HCF
                      cases hmi : me i with
                      | true =>
                        rw [hmi] at cm
                        have hC2 := Lib.hid (HCQ.out te (fun _ h => h) ⟨i, (hS.out.met i hil2).1 hmi, HIE.out⟩)
                        clear HCQ HIE hmi hil2
                        go_wp2_with fail
                        go_roundw
                        case rel => exact ⟨p + 1, te, me, b, c, by omega, by go_num, rfl, HOk.out, HOBk.out, hS, hQ, hC2, HB5k.out⟩
                        case measure => simp [intOf]; omega
                      | false =>
                        rw [hmi] at cm
                        have cf := HOBk.out.fr i
                        have HS2 := Lib.hid (hS.out.push (mt' := fun j => if j = i then true else me j) hil2 hmi fun j _ => rfl)
                        have hC2 := Lib.hid (HCQ.out (te ++ [i]) (fun _ h => List.mem_append_left _ h) ⟨i, by simp, HIE.out⟩)
                        have hQ2 : Hid (n < (te ++ [i]).length ∧ (te ++ [i]).getD n 0 = q) := Lib.hid ⟨by rw [List.length_append]; have := hQ.out.1; omega, by rw [getD_app, if_pos hQ.out.1]; exact hQ.out.2⟩
                        have hbl := World.ownsRow.lt HOk.out b rfl
                        have HOs : Hid ((wk.setCell ⟨w5.heap.size, i, none⟩ (.bool true)).ownsRow (w5.heap.size + 1) 3 1 (.slice (some ⟨b, 0, none⟩) te.length c) te.length (ints (nats te))) := Lib.hid (owns_at HOk.out (Below.heap_setCell _ _ _ _ (show b ≠ w5.heap.size by omega)))
                        have HOBs : Hid (OwnB (wk.setCell ⟨w5.heap.size, i, none⟩ (.bool true)) w5.heap.size w5.heap.size sl sl (fun j => if j = i then true else me j)) := Lib.hid (HOBk.out.set i true fun j _ => rfl)
                        have HBs : Hid (Below w5.heap.size w5 (wk.setCell ⟨w5.heap.size, i, none⟩ (.bool true))) := Lib.hid (below_cell HB5k.out (a := ⟨w5.heap.size, i, none⟩) (Nat.le_refl _) _)
                        have hsz : w5.heap.size + 1 ≤ wk.heap.size := by omega
                        have HSZ := Lib.hid hsz
                        have hss : (wk.setCell ⟨w5.heap.size, i, none⟩ (.bool true)).heap.size = wk.heap.size := by simp [World.setCell]
                        have HNO : Hid (∀ (j : Nat) (u : Value), [Value.int .i64 (i : Nat)][j]? = some u → ((wk.setCell ⟨w5.heap.size, i, none⟩ (.bool true)).alloc (.cells #[.int .i64 (i : Nat)] 3)).cell? ((⟨wk.heap.size, 0, none⟩ : Addr).add j) = some u) := Lib.hid (by
                          have h9 := newOne (wk.setCell ⟨w5.heap.size, i, none⟩ (.bool true)) (.int .i64 (i : Nat)) 3
                          rwa [hss] at h9)
                        have HSS := Lib.hid hss
                        clear hss
                        clear HCQ HIE hmi hil2 hbl HOk HOBk HB5k hS hQ hsz
                        obtain ⟨i3, hi3, hy0, hy1, hy2⟩ := info_parts Try.info3
                        go_wp2_with (first | (at_builtin; refine wpList_append_own _ rfl _ _ 24 rfl (w5.heap.size + 1) 3 i3 (.int .i64 0) 1 8 Try.underlying24 hi3 hy0 hy1 hy2 rfl (by decide) _ _ _ rfl (HOs.out.alloc _) ⟨wk.heap.size, 0, none⟩ 1 1 [.int .i64 (i : Nat)] rfl rfl HNO.out (oneInt _) (by unfold maxLen; omega) (by omega) (by have := HSZ.out; have := HSS.out; simp only [World.size_alloc]; omega) ?_; intro v9 w9 hown9 hg9 _) | fail)
                        have hown10 : w9.ownsRow (w5.heap.size + 1) 3 1 v9 (te ++ [i]).length (ints (nats (te ++ [i]))) := by simpa [ints, nats] using hown9
                        have hB9 : Below (w5.heap.size + 1) (wk.setCell ⟨w5.heap.size, i, none⟩ (.bool true)) w9 := ((a1 _ _).mono (by have := HSZ.out; have := HSS.out; omega)).grown hg9 (by have := HSZ.out; have := HSS.out; simp only [World.size_alloc]; omega) fun q e => (HOs.out.lt q e).1
                        obtain ⟨b9, c9, rfl, _⟩ := own_lit hown10 (by simp)
                        go_roundw
                        case rel => exact ⟨p + 1, te ++ [i], fun j => if j = i then true else me j, b9, c9, by omega, by go_num, rfl, hown10, owns_at HOBs.out (hB9.block w5.heap.size (Nat.lt_succ_self _)), HS2, hQ2, hC2, HBs.out.trans (hB9.mono (Nat.le_succ _))⟩
                        case measure => simp [intOf]; omega
                    | false =>
                      have hC2 := Lib.hid (HCF.out rfl)
                      clear HIN HFi HCF HCQ
                      go_wp2_with fail
                      go_roundw
                      case rel => exact ⟨p + 1, te, me, b, c, by omega, by go_num, rfl, HOk.out, HOBk.out, hS, hQ, hC2, HB5k.out⟩
                      case measure => simp [intOf]; omega
              · have hC2 := Lib.hid (HCP.out te (fun _ h => h) fun _ h => absurd h hpk)
                have hpk1 : (m:Int) < (p:Int) + K := by omega
                clear HCP HOV hC HNE
                go_wp2_with fail
                go_roundw
                case rel => exact ⟨p + 1, te, me, b, c, by omega, by go_num, rfl, HOu.out, HOBu.out, hS, hQ, hC2, HB5u.out⟩
                case measure => simp [intOf]; omega
          · have hC2 : Hid (∀ r, r < p + 1 → ClP g sp te x r) := Lib.hid fun r hr => by
              by_cases e : r = p
              · intro h9; rw [HXL.out] at h9; omega
              · exact hC.out r (by omega)
            have hwp : IntKind.i64.wrap ((p:Int) + 1) = (p:Int) + 1 := IntWalk.i64_in _ (by omega)
            have hge : (m:Int) ≤ (p:Int) + 1 := by omega
            go_wp2_with fail
            go_quiet (fail)
            go_wp2_with fail
            go_roundw
            case rel => exact ⟨p + 1, te, me, b, c, by omega, by go_num, rfl, owns_below HO.out (below_drewN (Below.refl _ _) _) (Nat.le_refl _), HOB.out.below (below_drewN (Below.refl _ _) _) (Nat.le_refl _), hS, hQ, hC2, below_drewN HB5.out _⟩
            case measure => simp [intOf]; omega
        · have hpp : p = m := by omega
          have HS1 : Hid (Srch g sp me te (n + 1)) := Lib.hid (hS.out.step hQ.out.1 fun r => by
            rw [hQ.out.2, HXD.out]
            by_cases e : r < p
            · exact hC.out r e
            · intro h9; rw [HXL.out] at h9; omega)
          have hlq := hQ.out.1
          clear hS hQ hC hpp
          go_wp2_with fail
          go_roundw
          case rel => exact ⟨n + 1, te, me, b, c, by go_num, rfl, HO.out, HOB.out, HS1, HB5.out⟩
          case measure => simp [intOf]; omega
    · have hnn : n = td.length := by omega
      
      have HA : Hid (∀ i, i < sl → mt i = true) := Lib.hid (by rw [HSL.out]; exact HAl.out mt td n hS.out hnn)
      have HOB := Lib.hid hO
      have HBr := Lib.hid hb
      obtain ⟨l0, hl0⟩ : ∃ l, sp[0]? = some l := ⟨sp[0]'(by rw [← HSL.out]; exact hSp), by simp⟩
      obtain ⟨b0, o0, u0, e0, hck0, hu0⟩ := HSX.out 0 l0 hl0
      have hs0 := (HSm.out l0).1 (List.mem_of_getElem? hl0)
      obtain ⟨ua0, uc0, rfl, _, _, _⟩ := Nats.open hu0
      rw [Nat.add_zero] at hck0
      have hL0 := letS_shw hg l0 X HXl.out hs0
      have hl0l : l0.length = m := by rw [hs0.2.1, ← HM.out]
      rw [hl0l] at hck0 hu0
      have HU0 := Lib.hid hu0
      have H04 : Hid (∀ x ∈ l0, x < 4) := Lib.hid fun z hz => by have := hs0.1 z hz; omega
      have HC0 : Hid (Cel ⟨b0, o0, none⟩ (.slice ua0 m uc0) w5) := Lib.hid hck0
      subst e0
      clear ho hO hb hS hnn hle hnl hl0 hu0 hck0 hl0l
      go_wp2_with fail
      go_loopw [204] (fun i w6 => ∃ k : Nat, k ≤ sl ∧ i = .int .i64 k ∧ Below w5.heap.size w5 w6 ∧ OwnB w6 w5.heap.size w5.heap.size sl sl mt) (fun i _ => sl - (intOf i).toNat)
      case atStart => exact ⟨0, Nat.zero_le _, rfl, HBr.out, HOB.out⟩
      case round =>
        rename World => w6
        clear HOB HBr
        obtain ⟨k, hk, rfl, hb6, hO6⟩ := hrel
        by_cases hks : k < sl
        · obtain ⟨l, hl⟩ : ∃ l, sp[k]? = some l := ⟨sp[k]'(by rw [← HSL.out]; exact hks), by simp⟩
          obtain ⟨lb, lo, lu, e1, hck, hlu⟩ := HSX.out k l hl
          simp only [Option.some.injEq, Addr.mk.injEq, and_true] at e1
          obtain ⟨rfl, rfl⟩ := e1
          have hsl := (HSm.out l).1 (List.mem_of_getElem? hl)
          have hLl := letS_shw hg l X HXl.out hsl
          have c1 := ck hck hb6
          have c0 : w6.cell? _ = _ := ck HC0.out hb6
          have cm := hO6.cell hks
          rw [HA.out k hks] at cm
          obtain ⟨ua, uc, rfl, _, _, _⟩ := Nats.open hlu
          have hl4 : ∀ x ∈ l, x < 4 := fun z hz => by have := hsl.1 z hz; omega
          have HL1 := Lib.hid (fun n => letters_any _ l (w6.drewN n) (Ints.below hlu (below_drewN hb6 n) (Nat.le_refl _)) hl4)
          have HL2 := Lib.hid (fun n => letters_any _ l0 (w6.drewN n) (Ints.below HU0.out (below_drewN hb6 n) (Nat.le_refl _)) H04.out)
          rw [hLl] at HL1
          rw [hL0] at HL2
          have HB6 := Lib.hid hb6
          have HO6 := Lib.hid hO6
          clear hb6 hO6 hl hck hlu hsl hLl hl4 hL0
          generalize letS (wd g X) = ls at *
          go_wp2_with fail
          go_quiet (first | (go_at_call 60; first | with_reducible exact quiet_eq (HL1.out _) | with_reducible exact quiet_eq (HL2.out _)))
          go_wp2_with fail
          go_roundw
          case rel => exact ⟨k + 1, by omega, by go_num, below_drewN HB6.out _, HO6.out.below (below_drewN (Below.refl _ _) _) (Nat.le_refl _)⟩
          case measure => simp [intOf]; omega
        · have HGz := Lib.hid (HG.out.below hb6)
          have H1z := Lib.hid (H1.out.below hb6 (Nat.le_refl _))
          have H2z := Lib.hid (H2.out.below hb6 (Nat.le_refl _))
          have HC0z := Lib.hid (HC0.out.below hb6)
          have HBz := Lib.hid (HB.out.trans (hb6.mono HB.out.size))
          clear HG H1 H2 HC0 HB hb6 hO6 HSW HSX HSm HA HU0 H04 hL0 hs0 HAl HFg HF HS0
          have HG := HGz
          have H1 := H1z
          have H2 := H2z
          have HC0 := HC0z
          have HB := HBz
          clear HGz H1z H2z HC0z HBz

          cases hw2 : wordB g l2 with
          | true =>
            have hq2 : l2.length ≤ 30 := by simp [wordB] at hw2; omega
            have HLi2 := Lib.hid (fun v W h => listOk hq2 v W h)
            have HLu := Lib.hid (fun v W h => Length_ok g hg v l2 W h hw2)
            have HTi := Lib.hid (fun v v' W h h' => Times_ok g hg v v' l2 l1 W h h' hw2 hw1')
            have hy := folI_lt hg hw2
            have hpar := ln_parity hg (wd g X) (folI g l2) hy (Let.wd hg HXl.out)
            have hfe : fol g (folI g l2) (toN l1) = fol g (folI g l2) (wd g X) := by rw [fol_toN hg hy hw1', HX.out]; rfl
            rw [← hfe, show (wd g X).length = m from HM.out.symm] at hpar
            have hzl := (tx hg (fol_lt hg (toN l1) _ hy (toN_lt (word_let hw1')))).2.1
            have hyl := (tx hg hy).2.1
            generalize fol g (folI g l2) (toN l1) = z at *
            generalize ln g z = c9 at *
            generalize ln g (folI g l2) = a9 at *
            obtain ⟨hp1, hp2⟩ := hpar
            clear hfe hy
            have g0 := HG.out.at0.1
            have g1 := HG.out.at0.2
            go_wp2_with fail
            clear g0 g1
            refine (HOf.out _).mono ?_
            rintro e w7 ⟨rfl, hb⟩
            have HBn : Hid (Below w6.heap.size w6 w7) := Lib.hid (hb)
            have HG_n := Lib.hid (HG.out.below HBn.out)
            have H1_n := Lib.hid (H1.out.below HBn.out (Nat.le_refl _))
            have H2_n := Lib.hid (H2.out.below HBn.out (Nat.le_refl _))
            have HC0_n := Lib.hid (HC0.out.below HBn.out)
            have HB_n := Lib.hid (HB.out.trans (HBn.out.mono HB.out.size))
            clear HG H1 H2 HC0 HB
            have HG := HG_n
            have H1 := H1_n
            have H2 := H2_n
            have HC0 := HC0_n
            have HB := HB_n
            clear HG_n H1_n H2_n HC0_n HB_n HBn hb
            have g0 := HG.out.at0.1
            have g1 := HG.out.at0.2
            go_wp2_with fail
            clear g0 g1
            refine (HLi2.out _ _ H2.out).mono ?_
            rintro e w8 ⟨ka, kc, rfl, hm2, hb⟩
            have HBn : Hid (Below w7.heap.size w7 w8) := Lib.hid (hb)
            have HG_n := Lib.hid (HG.out.below HBn.out)
            have H1_n := Lib.hid (H1.out.below HBn.out (Nat.le_refl _))
            have H2_n := Lib.hid (H2.out.below HBn.out (Nat.le_refl _))
            have HC0_n := Lib.hid (HC0.out.below HBn.out)
            have HB_n := Lib.hid (HB.out.trans (HBn.out.mono HB.out.size))
            clear HG H1 H2 HC0 HB
            have HG := HG_n
            have H1 := H1_n
            have H2 := H2_n
            have HC0 := HC0_n
            have HB := HB_n
            clear HG_n H1_n H2_n HC0_n HB_n HBn hb
            have HM2 := Lib.hid hm2
            clear hm2
            have g0 := HG.out.at0.1
            have g1 := HG.out.at0.2
            go_wp2_with fail
            clear g0 g1
            refine (HLu.out _ _ HM2.out).mono ?_
            rintro e w9 ⟨rfl, hb⟩
            have HBn : Hid (Below w8.heap.size w8 w9) := Lib.hid (hb)
            have HG_n := Lib.hid (HG.out.below HBn.out)
            have H1_n := Lib.hid (H1.out.below HBn.out (Nat.le_refl _))
            have H2_n := Lib.hid (H2.out.below HBn.out (Nat.le_refl _))
            have HC0_n := Lib.hid (HC0.out.below HBn.out)
            have HM2_n := Lib.hid (HM2.out.below HBn.out (Nat.le_refl _))
            have HB_n := Lib.hid (HB.out.trans (HBn.out.mono HB.out.size))
            clear HG H1 H2 HC0 HM2 HB
            have HG := HG_n
            have H1 := H1_n
            have H2 := H2_n
            have HC0 := HC0_n
            have HM2 := HM2_n
            have HB := HB_n
            clear HG_n H1_n H2_n HC0_n HM2_n HB_n HBn hb
            have g0 := HG.out.at0.1
            have g1 := HG.out.at0.2
            go_wp2_with fail
            clear HM2
            clear g0 g1
            refine (HOf.out _).mono ?_
            rintro e w10 ⟨rfl, hb⟩
            have HBn : Hid (Below w9.heap.size w9 w10) := Lib.hid (hb)
            have HG_n := Lib.hid (HG.out.below HBn.out)
            have H1_n := Lib.hid (H1.out.below HBn.out (Nat.le_refl _))
            have H2_n := Lib.hid (H2.out.below HBn.out (Nat.le_refl _))
            have HC0_n := Lib.hid (HC0.out.below HBn.out)
            have HB_n := Lib.hid (HB.out.trans (HBn.out.mono HB.out.size))
            clear HG H1 H2 HC0 HB
            have HG := HG_n
            have H1 := H1_n
            have H2 := H2_n
            have HC0 := HC0_n
            have HB := HB_n
            clear HG_n H1_n H2_n HC0_n HB_n HBn hb
            have g0 := HG.out.at0.1
            have g1 := HG.out.at0.2
            go_wp2_with fail
            clear g0 g1
            refine (HLi.out _ _ H1.out).mono ?_
            rintro e w11 ⟨la, lc, rfl, hm1, hb⟩
            have HBn : Hid (Below w10.heap.size w10 w11) := Lib.hid (hb)
            have HG_n := Lib.hid (HG.out.below HBn.out)
            have H1_n := Lib.hid (H1.out.below HBn.out (Nat.le_refl _))
            have H2_n := Lib.hid (H2.out.below HBn.out (Nat.le_refl _))
            have HC0_n := Lib.hid (HC0.out.below HBn.out)
            have HB_n := Lib.hid (HB.out.trans (HBn.out.mono HB.out.size))
            clear HG H1 H2 HC0 HB
            have HG := HG_n
            have H1 := H1_n
            have H2 := H2_n
            have HC0 := HC0_n
            have HB := HB_n
            clear HG_n H1_n H2_n HC0_n HB_n HBn hb
            have HM1 := Lib.hid hm1
            clear hm1
            have g0 := HG.out.at0.1
            have g1 := HG.out.at0.2
            go_wp2_with fail
            clear g0 g1
            refine (HLn.out _ _ HM1.out).mono ?_
            rintro e w12 ⟨rfl, hb⟩
            have HBn : Hid (Below w11.heap.size w11 w12) := Lib.hid (hb)
            have HG_n := Lib.hid (HG.out.below HBn.out)
            have H1_n := Lib.hid (H1.out.below HBn.out (Nat.le_refl _))
            have H2_n := Lib.hid (H2.out.below HBn.out (Nat.le_refl _))
            have HC0_n := Lib.hid (HC0.out.below HBn.out)
            have HM1_n := Lib.hid (HM1.out.below HBn.out (Nat.le_refl _))
            have HB_n := Lib.hid (HB.out.trans (HBn.out.mono HB.out.size))
            clear HG H1 H2 HC0 HM1 HB
            have HG := HG_n
            have H1 := H1_n
            have H2 := H2_n
            have HC0 := HC0_n
            have HM1 := HM1_n
            have HB := HB_n
            clear HG_n H1_n H2_n HC0_n HM1_n HB_n HBn hb
            have g0 := HG.out.at0.1
            have g1 := HG.out.at0.2
            go_wp2_with fail
            clear HM1
            clear g0 g1
            refine (HOf.out _).mono ?_
            rintro e w13 ⟨rfl, hb⟩
            have HBn : Hid (Below w12.heap.size w12 w13) := Lib.hid (hb)
            have HG_n := Lib.hid (HG.out.below HBn.out)
            have H1_n := Lib.hid (H1.out.below HBn.out (Nat.le_refl _))
            have H2_n := Lib.hid (H2.out.below HBn.out (Nat.le_refl _))
            have HC0_n := Lib.hid (HC0.out.below HBn.out)
            have HB_n := Lib.hid (HB.out.trans (HBn.out.mono HB.out.size))
            clear HG H1 H2 HC0 HB
            have HG := HG_n
            have H1 := H1_n
            have H2 := H2_n
            have HC0 := HC0_n
            have HB := HB_n
            clear HG_n H1_n H2_n HC0_n HB_n HBn hb
            have g0 := HG.out.at0.1
            have g1 := HG.out.at0.2
            go_wp2_with fail
            clear g0 g1
            refine (HLi2.out _ _ H2.out).mono ?_
            rintro e w14 ⟨ka, kc, rfl, hm2, hb⟩
            have HBn : Hid (Below w13.heap.size w13 w14) := Lib.hid (hb)
            have HG_n := Lib.hid (HG.out.below HBn.out)
            have H1_n := Lib.hid (H1.out.below HBn.out (Nat.le_refl _))
            have H2_n := Lib.hid (H2.out.below HBn.out (Nat.le_refl _))
            have HC0_n := Lib.hid (HC0.out.below HBn.out)
            have HB_n := Lib.hid (HB.out.trans (HBn.out.mono HB.out.size))
            clear HG H1 H2 HC0 HB
            have HG := HG_n
            have H1 := H1_n
            have H2 := H2_n
            have HC0 := HC0_n
            have HB := HB_n
            clear HG_n H1_n H2_n HC0_n HB_n HBn hb
            have HM2 := Lib.hid hm2
            clear hm2
            have g0 := HG.out.at0.1
            have g1 := HG.out.at0.2
            go_wp2_with fail
            clear g0 g1
            refine (HLi.out _ _ H1.out).mono ?_
            rintro e w15 ⟨la, lc, rfl, hm1, hb⟩
            have HBn : Hid (Below w14.heap.size w14 w15) := Lib.hid (hb)
            have HG_n := Lib.hid (HG.out.below HBn.out)
            have H1_n := Lib.hid (H1.out.below HBn.out (Nat.le_refl _))
            have H2_n := Lib.hid (H2.out.below HBn.out (Nat.le_refl _))
            have HC0_n := Lib.hid (HC0.out.below HBn.out)
            have HM2_n := Lib.hid (HM2.out.below HBn.out (Nat.le_refl _))
            have HB_n := Lib.hid (HB.out.trans (HBn.out.mono HB.out.size))
            clear HG H1 H2 HC0 HM2 HB
            have HG := HG_n
            have H1 := H1_n
            have H2 := H2_n
            have HC0 := HC0_n
            have HM2 := HM2_n
            have HB := HB_n
            clear HG_n H1_n H2_n HC0_n HM2_n HB_n HBn hb
            have HM1 := Lib.hid hm1
            clear hm1
            have g0 := HG.out.at0.1
            have g1 := HG.out.at0.2
            go_wp2_with fail
            clear g0 g1
            refine (HTi.out _ _ _ HM2.out HM1.out).mono ?_
            rintro e w16 ⟨ta, tc, rfl, -, hb⟩
            have HBn : Hid (Below w15.heap.size w15 w16) := Lib.hid (hb)
            have HG_n := Lib.hid (HG.out.below HBn.out)
            have H1_n := Lib.hid (H1.out.below HBn.out (Nat.le_refl _))
            have H2_n := Lib.hid (H2.out.below HBn.out (Nat.le_refl _))
            have HC0_n := Lib.hid (HC0.out.below HBn.out)
            have HM2_n := Lib.hid (HM2.out.below HBn.out (Nat.le_refl _))
            have HM1_n := Lib.hid (HM1.out.below HBn.out (Nat.le_refl _))
            have HB_n := Lib.hid (HB.out.trans (HBn.out.mono HB.out.size))
            clear HG H1 H2 HC0 HM2 HM1 HB
            have HG := HG_n
            have H1 := H1_n
            have H2 := H2_n
            have HC0 := HC0_n
            have HM2 := HM2_n
            have HM1 := HM1_n
            have HB := HB_n
            clear HG_n H1_n H2_n HC0_n HM2_n HM1_n HB_n HBn hb
            have g0 := HG.out.at0.1
            have g1 := HG.out.at0.2
            have hc0 : _ = some _ := HC0.out
            have hev : (((a9 : Int) + (m : Int) - (c9 : Int)).tmod 2 == 0) = true := by rw [beq_iff_eq, Int.tmod_eq_emod_of_nonneg (by omega)]; omega
            go_wp2_with fail
            clear HM1 HM2
            clear g0 g1
            refine (HAw.out _).mono ?_
            rintro e w17 ⟨rfl, hb⟩
            have HBn : Hid (Below w16.heap.size w16 w17) := Lib.hid (hb)
            have HG_n := Lib.hid (HG.out.below HBn.out)
            have H1_n := Lib.hid (H1.out.below HBn.out (Nat.le_refl _))
            have H2_n := Lib.hid (H2.out.below HBn.out (Nat.le_refl _))
            have HC0_n := Lib.hid (HC0.out.below HBn.out)
            have HB_n := Lib.hid (HB.out.trans (HBn.out.mono HB.out.size))
            clear HG H1 H2 HC0 HB
            have HG := HG_n
            have H1 := H1_n
            have H2 := H2_n
            have HC0 := HC0_n
            have HB := HB_n
            clear HG_n H1_n H2_n HC0_n HB_n HBn hb
            have g0 := HG.out.at0.1
            have g1 := HG.out.at0.2
            go_wp2_with fail
            go_ret
            exact ⟨rfl, HB.out⟩
          | false =>
            have hbd : Bad (kd g) (nm g) [l2.take 34] := .inr ⟨g, hg, rfl, rfl, by simp [word_take, hw2]⟩
            have hbd2 : Bad (kd g) (nm g) [l2.take 34, l1] := .inr ⟨g, hg, rfl, rfl, by simp [word_take, hw2]⟩
            have HLi2 := Lib.hid (fun v W h => listBad l2 v W h)
            have HLu := Lib.hid (fun v W h => Length_bad (kd g) (nm g) v (l2.take 34) W h hbd)
            have HTi := Lib.hid (fun v v' W h h' => Times_bad (kd g) (nm g) v v' (l2.take 34) l1 W h h' hbd2)
            generalize l2.take 34 = m2 at *
            clear hbd hbd2
            have g0 := HG.out.at0.1
            have g1 := HG.out.at0.2
            go_wp2_with fail
            clear g0 g1
            refine (HOf.out _).mono ?_
            rintro e w7 ⟨rfl, hb⟩
            have HBn : Hid (Below w6.heap.size w6 w7) := Lib.hid (hb)
            have HG_n := Lib.hid (HG.out.below HBn.out)
            have H1_n := Lib.hid (H1.out.below HBn.out (Nat.le_refl _))
            have H2_n := Lib.hid (H2.out.below HBn.out (Nat.le_refl _))
            have HC0_n := Lib.hid (HC0.out.below HBn.out)
            have HB_n := Lib.hid (HB.out.trans (HBn.out.mono HB.out.size))
            clear HG H1 H2 HC0 HB
            have HG := HG_n
            have H1 := H1_n
            have H2 := H2_n
            have HC0 := HC0_n
            have HB := HB_n
            clear HG_n H1_n H2_n HC0_n HB_n HBn hb
            have g0 := HG.out.at0.1
            have g1 := HG.out.at0.2
            go_wp2_with fail
            clear g0 g1
            refine (HLi2.out _ _ H2.out).mono ?_
            rintro e w8 ⟨ka, kc, rfl, hm2, hb⟩
            have HBn : Hid (Below w7.heap.size w7 w8) := Lib.hid (hb)
            have HG_n := Lib.hid (HG.out.below HBn.out)
            have H1_n := Lib.hid (H1.out.below HBn.out (Nat.le_refl _))
            have H2_n := Lib.hid (H2.out.below HBn.out (Nat.le_refl _))
            have HC0_n := Lib.hid (HC0.out.below HBn.out)
            have HB_n := Lib.hid (HB.out.trans (HBn.out.mono HB.out.size))
            clear HG H1 H2 HC0 HB
            have HG := HG_n
            have H1 := H1_n
            have H2 := H2_n
            have HC0 := HC0_n
            have HB := HB_n
            clear HG_n H1_n H2_n HC0_n HB_n HBn hb
            have HM2 := Lib.hid hm2
            clear hm2
            have g0 := HG.out.at0.1
            have g1 := HG.out.at0.2
            go_wp2_with fail
            clear g0 g1
            refine (HLu.out _ _ HM2.out).mono ?_
            rintro e w9 ⟨rfl, hb⟩
            have HBn : Hid (Below w8.heap.size w8 w9) := Lib.hid (hb)
            have HG_n := Lib.hid (HG.out.below HBn.out)
            have H1_n := Lib.hid (H1.out.below HBn.out (Nat.le_refl _))
            have H2_n := Lib.hid (H2.out.below HBn.out (Nat.le_refl _))
            have HC0_n := Lib.hid (HC0.out.below HBn.out)
            have HM2_n := Lib.hid (HM2.out.below HBn.out (Nat.le_refl _))
            have HB_n := Lib.hid (HB.out.trans (HBn.out.mono HB.out.size))
            clear HG H1 H2 HC0 HM2 HB
            have HG := HG_n
            have H1 := H1_n
            have H2 := H2_n
            have HC0 := HC0_n
            have HM2 := HM2_n
            have HB := HB_n
            clear HG_n H1_n H2_n HC0_n HM2_n HB_n HBn hb
            have g0 := HG.out.at0.1
            have g1 := HG.out.at0.2
            go_wp2_with fail
            clear HM2
            clear g0 g1
            refine (HOf.out _).mono ?_
            rintro e w10 ⟨rfl, hb⟩
            have HBn : Hid (Below w9.heap.size w9 w10) := Lib.hid (hb)
            have HG_n := Lib.hid (HG.out.below HBn.out)
            have H1_n := Lib.hid (H1.out.below HBn.out (Nat.le_refl _))
            have H2_n := Lib.hid (H2.out.below HBn.out (Nat.le_refl _))
            have HC0_n := Lib.hid (HC0.out.below HBn.out)
            have HB_n := Lib.hid (HB.out.trans (HBn.out.mono HB.out.size))
            clear HG H1 H2 HC0 HB
            have HG := HG_n
            have H1 := H1_n
            have H2 := H2_n
            have HC0 := HC0_n
            have HB := HB_n
            clear HG_n H1_n H2_n HC0_n HB_n HBn hb
            have g0 := HG.out.at0.1
            have g1 := HG.out.at0.2
            go_wp2_with fail
            clear g0 g1
            refine (HLi.out _ _ H1.out).mono ?_
            rintro e w11 ⟨la, lc, rfl, hm1, hb⟩
            have HBn : Hid (Below w10.heap.size w10 w11) := Lib.hid (hb)
            have HG_n := Lib.hid (HG.out.below HBn.out)
            have H1_n := Lib.hid (H1.out.below HBn.out (Nat.le_refl _))
            have H2_n := Lib.hid (H2.out.below HBn.out (Nat.le_refl _))
            have HC0_n := Lib.hid (HC0.out.below HBn.out)
            have HB_n := Lib.hid (HB.out.trans (HBn.out.mono HB.out.size))
            clear HG H1 H2 HC0 HB
            have HG := HG_n
            have H1 := H1_n
            have H2 := H2_n
            have HC0 := HC0_n
            have HB := HB_n
            clear HG_n H1_n H2_n HC0_n HB_n HBn hb
            have HM1 := Lib.hid hm1
            clear hm1
            have g0 := HG.out.at0.1
            have g1 := HG.out.at0.2
            go_wp2_with fail
            clear g0 g1
            refine (HLn.out _ _ HM1.out).mono ?_
            rintro e w12 ⟨rfl, hb⟩
            have HBn : Hid (Below w11.heap.size w11 w12) := Lib.hid (hb)
            have HG_n := Lib.hid (HG.out.below HBn.out)
            have H1_n := Lib.hid (H1.out.below HBn.out (Nat.le_refl _))
            have H2_n := Lib.hid (H2.out.below HBn.out (Nat.le_refl _))
            have HC0_n := Lib.hid (HC0.out.below HBn.out)
            have HM1_n := Lib.hid (HM1.out.below HBn.out (Nat.le_refl _))
            have HB_n := Lib.hid (HB.out.trans (HBn.out.mono HB.out.size))
            clear HG H1 H2 HC0 HM1 HB
            have HG := HG_n
            have H1 := H1_n
            have H2 := H2_n
            have HC0 := HC0_n
            have HM1 := HM1_n
            have HB := HB_n
            clear HG_n H1_n H2_n HC0_n HM1_n HB_n HBn hb
            have g0 := HG.out.at0.1
            have g1 := HG.out.at0.2
            go_wp2_with fail
            clear HM1
            clear g0 g1
            refine (HOf.out _).mono ?_
            rintro e w13 ⟨rfl, hb⟩
            have HBn : Hid (Below w12.heap.size w12 w13) := Lib.hid (hb)
            have HG_n := Lib.hid (HG.out.below HBn.out)
            have H1_n := Lib.hid (H1.out.below HBn.out (Nat.le_refl _))
            have H2_n := Lib.hid (H2.out.below HBn.out (Nat.le_refl _))
            have HC0_n := Lib.hid (HC0.out.below HBn.out)
            have HB_n := Lib.hid (HB.out.trans (HBn.out.mono HB.out.size))
            clear HG H1 H2 HC0 HB
            have HG := HG_n
            have H1 := H1_n
            have H2 := H2_n
            have HC0 := HC0_n
            have HB := HB_n
            clear HG_n H1_n H2_n HC0_n HB_n HBn hb
            have g0 := HG.out.at0.1
            have g1 := HG.out.at0.2
            go_wp2_with fail
            clear g0 g1
            refine (HLi2.out _ _ H2.out).mono ?_
            rintro e w14 ⟨ka, kc, rfl, hm2, hb⟩
            have HBn : Hid (Below w13.heap.size w13 w14) := Lib.hid (hb)
            have HG_n := Lib.hid (HG.out.below HBn.out)
            have H1_n := Lib.hid (H1.out.below HBn.out (Nat.le_refl _))
            have H2_n := Lib.hid (H2.out.below HBn.out (Nat.le_refl _))
            have HC0_n := Lib.hid (HC0.out.below HBn.out)
            have HB_n := Lib.hid (HB.out.trans (HBn.out.mono HB.out.size))
            clear HG H1 H2 HC0 HB
            have HG := HG_n
            have H1 := H1_n
            have H2 := H2_n
            have HC0 := HC0_n
            have HB := HB_n
            clear HG_n H1_n H2_n HC0_n HB_n HBn hb
            have HM2 := Lib.hid hm2
            clear hm2
            have g0 := HG.out.at0.1
            have g1 := HG.out.at0.2
            go_wp2_with fail
            clear g0 g1
            refine (HLi.out _ _ H1.out).mono ?_
            rintro e w15 ⟨la, lc, rfl, hm1, hb⟩
            have HBn : Hid (Below w14.heap.size w14 w15) := Lib.hid (hb)
            have HG_n := Lib.hid (HG.out.below HBn.out)
            have H1_n := Lib.hid (H1.out.below HBn.out (Nat.le_refl _))
            have H2_n := Lib.hid (H2.out.below HBn.out (Nat.le_refl _))
            have HC0_n := Lib.hid (HC0.out.below HBn.out)
            have HM2_n := Lib.hid (HM2.out.below HBn.out (Nat.le_refl _))
            have HB_n := Lib.hid (HB.out.trans (HBn.out.mono HB.out.size))
            clear HG H1 H2 HC0 HM2 HB
            have HG := HG_n
            have H1 := H1_n
            have H2 := H2_n
            have HC0 := HC0_n
            have HM2 := HM2_n
            have HB := HB_n
            clear HG_n H1_n H2_n HC0_n HM2_n HB_n HBn hb
            have HM1 := Lib.hid hm1
            clear hm1
            have g0 := HG.out.at0.1
            have g1 := HG.out.at0.2
            go_wp2_with fail
            clear g0 g1
            refine (HTi.out _ _ _ HM2.out HM1.out).mono ?_
            rintro e w16 ⟨rfl, hb⟩
            have HBn : Hid (Below w15.heap.size w15 w16) := Lib.hid (hb)
            have HG_n := Lib.hid (HG.out.below HBn.out)
            have H1_n := Lib.hid (H1.out.below HBn.out (Nat.le_refl _))
            have H2_n := Lib.hid (H2.out.below HBn.out (Nat.le_refl _))
            have HC0_n := Lib.hid (HC0.out.below HBn.out)
            have HM2_n := Lib.hid (HM2.out.below HBn.out (Nat.le_refl _))
            have HM1_n := Lib.hid (HM1.out.below HBn.out (Nat.le_refl _))
            have HB_n := Lib.hid (HB.out.trans (HBn.out.mono HB.out.size))
            clear HG H1 H2 HC0 HM2 HM1 HB
            have HG := HG_n
            have H1 := H1_n
            have H2 := H2_n
            have HC0 := HC0_n
            have HM2 := HM2_n
            have HM1 := HM1_n
            have HB := HB_n
            clear HG_n H1_n H2_n HC0_n HM2_n HM1_n HB_n HBn hb
            have g0 := HG.out.at0.1
            have g1 := HG.out.at0.2
            go_wp2_with fail
            clear HM1 HM2
            clear g0 g1
            refine (HAw.out _).mono ?_
            rintro e w17 ⟨rfl, hb⟩
            have HBn : Hid (Below w16.heap.size w16 w17) := Lib.hid (hb)
            have HG_n := Lib.hid (HG.out.below HBn.out)
            have H1_n := Lib.hid (H1.out.below HBn.out (Nat.le_refl _))
            have H2_n := Lib.hid (H2.out.below HBn.out (Nat.le_refl _))
            have HC0_n := Lib.hid (HC0.out.below HBn.out)
            have HB_n := Lib.hid (HB.out.trans (HBn.out.mono HB.out.size))
            clear HG H1 H2 HC0 HB
            have HG := HG_n
            have H1 := H1_n
            have H2 := H2_n
            have HC0 := HC0_n
            have HB := HB_n
            clear HG_n H1_n H2_n HC0_n HB_n HBn hb
            have g0 := HG.out.at0.1
            have g1 := HG.out.at0.2
            go_wp2_with fail
            go_ret
            exact ⟨rfl, HB.out⟩
/-- THE LAW MirrorLetters. -/
theorem mirrorLetters_law (k n : Int) (v2 v1 : Value) (l2 l1 : List Int) (w : World) (h2 : Ints w v2 l2) (h1 : Ints w v1 l1) :
    Calls Try.prog 10 #[gV k n, v2, v1] w fun e w' => e = .returned (.bool true) ∧ Below w.heap.size w w' := by
  by_cases hk : grpB k n = true
  · obtain ⟨g, hg, rfl, rfl⟩ := grp_of hk
    cases hw1 : wordB g l1 with
    | true => exact letters_good g hg v2 v1 l2 l1 w h2 h1 hw1
    | false =>
      refine letters_bad _ _ v2 v1 l2 l1 w h2 h1 (.inr ⟨g, hg, rfl, rfl, by simp [word_take, hw1]⟩) fun v W h => ?_
      have := fine_any g hg v [l1] W h (by simp)
      rwa [show [l1].all (wordB g) = false by simp [hw1]] at this
  · exact letters_bad k n v2 v1 l2 l1 w h2 h1 (.inl (by simpa using hk)) fun v W _ => fine_none k n (Bool.eq_false_iff.2 hk) v W
end Go.Proofs.Ytlnbodpdgebflaa
