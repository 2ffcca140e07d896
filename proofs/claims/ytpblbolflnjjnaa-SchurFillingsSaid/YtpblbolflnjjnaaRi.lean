/- the reference's Fillings -/
import Derived.Test.YtpblbolflnjjnaaRh
import Derived.Test.YtpblbolflnjjnaaWo
namespace Go.Proofs.Ytpblbolflnjjnaa
open Go.RowKit

def rneed (caps : List Nat) (i : Nat) (rs : List (List Int)) : Nat := caps.length - i + (caps.sum - nboxes rs)

theorem rfillings_any (caps : List Nat) (vl : Value) (hfall : Falls caps) : ∀ (fuel i : Nat) (rs : List (List Int)) (left : List Int) (w : World) (vleft vrows : Value), i ≤ caps.length → rneed caps i rs < fuel → Full caps i rs → RIn caps rs left →
    Ints w vl (caps.map (fun (c : Nat) => (c : Int))) → Ints w vleft left → MadeRows w vrows rs → Calls Try.prog 70 #[vl, vleft, vrows, .int .i64 i] w (RPost (rsrch caps fuel i rs left) w) := by
  intro fuel
  induction fuel with
  | zero => intro i rs left w vleft vrows _ h; omega
  | succ fuel ih =>
    intro i rs left w vleft vrows hi hneed hf hin hl hlf hr
    rcases Nat.lt_or_ge i caps.length with hlt | hge
    · have hir : i < rs.length := by rw [hin.rl]; exact hlt
      have hb := hin.rb i hir
      rcases Nat.lt_or_ge (rs.getD i []).length (caps.getD i 0) with h | h
      · refine rf_main caps fuel rs left w vl vleft vrows hl hlf hr hin i hlt h (fun h0 => ?_) ?_
        · rw [hf (i - 1) (by omega)]
          have := hfall i h0 hlt
          omega
        · intro x w' vleft' vrows' hx1 hx2 hbad hl' hlf' hr' hin'
          refine ih i _ _ w' vleft' vrows' hi ?_ (hf.set _ hir) hin' hl' hlf' hr'
          have e := nboxes_set rs i (x : Int) hir
          have hle := nboxes_le _ caps hin'.rl hin'.rb
          unfold rneed at hneed ⊢
          omega
      · have hfull : (rs.getD i []).length = caps.getD i 0 := by omega
        have e : rsrch caps (fuel + 1) i rs left = rsrch caps fuel (i + 1) rs left := by
          simp only [rsrch]
          rw [if_neg (by omega), if_pos hfull]
        rw [e]
        refine rf_full caps _ rs left w vl vleft vrows hl hr hin i hlt hfull ?_
        exact_mod_cast ih (i + 1) rs left w vleft vrows (by omega) (by unfold rneed at hneed ⊢; omega) (fun j hj => by
          rcases Nat.lt_or_ge j i with h1 | h1
          · exact hf j h1
          · obtain rfl : j = i := by omega
            exact hfull) hin hl hlf hr
    · obtain rfl : i = caps.length := by omega
      exact rf_done caps fuel rs left w vl vleft vrows hl hr hin

def noRows (n : Nat) : List (List Int) := List.replicate n []

theorem shape_falls {l : List Int} (h : Shape l) : Falls (capsOf l) := fun i h0 hi => by
  have hi' : i < l.length := by simpa [capsOf] using hi
  have h1 := (h.2.1 i hi').2.2 h0
  have e : ∀ k, k < l.length → (capsOf l).getD k 0 = (l.getD k 0).toNat := fun k hk => by simp [capsOf, List.getD, hk]
  rw [e i hi', e (i - 1) (by omega)]
  omega

theorem rin_start {l m : List Int} (hs : Shape l) (hm : Content m) : RIn (capsOf l) (noRows l.length) m where
  n := by simpa [capsOf] using hs.1
  cb := fun c hc => by
    simp only [capsOf, List.mem_map] at hc
    obtain ⟨x, hx, rfl⟩ := hc
    have := hs.bd x hx
    omega
  cs := by
    have h1 := capsOf_sum (l := l) fun x hx => by have := hs.bd x hx; omega
    have h2 := hs.2.2
    omega
  rl := by simp [capsOf, noRows]
  rb := fun j hj => by
    have : j < l.length := by simpa [noRows] using hj
    simp [noRows, List.getD, this]
  rx := fun xs hxs x hx => by
    have := List.eq_of_mem_replicate hxs
    subst this; simp at hx
  ll := hm.1
  lx := hm.bd

theorem rfill_eq {l m : List Int} (hs : Shape l) (hm : Content m) (he : isum l = isum m) : rsrch (capsOf l) 17 0 (noRows l.length) m = fillS l m := by
  rw [rsrch_eq (capsOf l) 17 0 _ _ (rin_start hs hm) (Nat.zero_le _)]
  unfold fillS
  rw [if_pos he]
  have e : initRows (capsOf l) [] = noRows l.length := by
    refine List.ext_getElem (by simp [initRows, noRows, capsOf]) fun j h1 h2 => ?_
    simp [initRows, noRows]
  rw [e]

theorem run_make34' (n : Nat) (hn : n ≤ 100) (W : World) : (Instr.makeSlice 34 (.int .i64 n) (.int .i64 n)).run Try.prog W = .ok (.slice (some ⟨W.heap.size, 0, none⟩) n n) (W.alloc (.cells (List.replicate n (Value.slice none 0 0)).toArray 22)) := run_make34 n hn W

theorem made_start (w : World) (n : Nat) (hn : n ≤ 100) : MadeRows (w.alloc (.cells (List.replicate n (Value.slice none 0 0)).toArray 22)) (.slice (some ⟨w.heap.size, 0, none⟩) n n) (noRows n) := by
  refine ⟨List.replicate n (.slice none 0 0), ⟨_, n, by simp, by simp, by simp; omega, by unfold maxLen; omega, .inr ⟨w.heap.size, 0, rfl, by simp, fun k x hx => ?_⟩⟩, by simp [noRows], fun i u x hu hx => ?_⟩
  · rw [Nat.zero_add, World.cell?_alloc_new, List.getElem?_toArray]
    exact hx
  · have h1 := List.mem_of_getElem? hu
    have h2 := List.mem_of_getElem? hx
    obtain rfl := List.eq_of_mem_replicate h1
    obtain rfl := List.eq_of_mem_replicate h2
    exact ⟨Ints.nil _, fun n c h => by simp at h; omega⟩

set_option maxRecDepth 100000 in
set_option maxHeartbeats 1000000 in
theorem rFillings_any (l m : List Int) (w : World) (vl vm : Value) (hl : Ints w vl l) (hm : Ints w vm m) (hmn : NilOk vm) (hs : Shape l) (hc : Content m) :
    Calls Try.prog 25 #[vl, vm] w (RPost (fillS l m) w) := by
  have hlx : ∀ x ∈ l, 0 ≤ x ∧ x ≤ 8 := fun x hx => ⟨by have := hs.bd x hx; omega, (hs.bd x hx).2⟩
  have HS1 := hidIt (rsum_any vl l w hl hlx)
  have HS2 := hidIt (rsum_any vm m w hm hc.bd)
  by_cases he : isum l = isum m
  · have hne : (isum l != isum m) = false := by simp [he]
    have HFE := hidIt (rfill_eq hs hc he)
    have hl8 := hs.1
    obtain ⟨al, cl, hvl, _, _, _⟩ := hl.open
    obtain ⟨am, cm, hvm, _, _, hcm⟩ := hm.open
    have hmk := run_make34' l.length (by omega)
    have hm8 := hc.1
    have HL := hidIt hl
    have HM := hidIt hm
    have HMN := hidIt hmn
    have HCM := hidIt hcm
    have HIN := hidIt (rin_start hs hc)
    have HFALL := hidIt (shape_falls hs)
    have HCI := hidIt (capsOf_int (l := l) fun x hx => (hlx x hx).1)
    have HCS := hidIt (capsOf_sum (l := l) fun x hx => (hlx x hx).1)
    have hs8 := hs.2.2
    have HS8 := hidIt hs8
    have HSm : Hid (∀ x ∈ m, I64 x) := fun x hx => by have := hc.bd x hx; exact ⟨by omega, by omega⟩
    obtain ⟨i3, hi3, hz0, hz1, hz2⟩ := info_parts Try.info3
    clear he hl hm hmn hcm hs hc hlx hs8
    subst hvl hvm
    have HE0 : Hid (∀ w3 vless, Below w.heap.size w w3 → MadeRows w3 (.slice (some ⟨w.heap.size, 0, none⟩) l.length l.length) (noRows l.length) → Ints w3 vless m → Calls Try.prog 70 #[.slice al l.length cl, vless, .slice (some ⟨w.heap.size, 0, none⟩) l.length l.length, .int .i64 0] w3 (RPost (fillS l m) w3)) := by
      intro w3 vless hb hr hlf
      rw [← HFE.out]
      have h := rfillings_any (capsOf l) (.slice al l.length cl) HFALL.out 17 0 (noRows l.length) m w3 vless _ (Nat.zero_le _) (by
        unfold rneed
        have h1 := HCS.out
        have h2 := HS8.out
        have h3 : (capsOf l).length ≤ 8 := HIN.out.n
        omega) (fun j hj => by omega) HIN.out (by rw [HCI.out]; exact HL.out.below hb (Nat.le_refl _)) hlf hr
      exact_mod_cast h
    have HMS := hidIt (made_start w l.length (by omega))
    obtain ⟨w2, hw2⟩ : ∃ w2, w2 = w.alloc (.cells (List.replicate l.length (Value.slice none 0 0)).toArray 22) := ⟨_, rfl⟩
    rw [← hw2] at HMS
    have hb2 : Below w.heap.size w w2 := by rw [hw2]; exact (Below.refl _ _).alloc (Nat.le_refl _) _
    have HB2 := hidIt hb2
    have HW2 := hidIt hw2
    clear hb2 hw2
    go_enter Try.func25, Try.ntmps25
    go_wp2_with fail
    refine HS1.out.mono ?_
    rintro e w' ⟨rfl, rfl⟩
    go_wp2_with fail
    refine HS2.out.mono ?_
    rintro e w' ⟨rfl, rfl⟩
    go_upto_region 4 with (fail)
    have e2 := HW2.out
    rw [List.toArray_replicate] at e2
    rw [← e2]
    clear e2 hmk
    rcases am with _ | ad
    · obtain ⟨hm0, rfl⟩ := HMN.out _ _ rfl
      obtain rfl : m = [] := List.eq_nil_of_length_eq_zero hm0
      have HMk := hidIt (World.ownsRow_made (base := w2.heap.size) (e := 3) (size := 1) w2 #[] 0 (Nat.le_refl _) (Nat.zero_le _) rfl)
      have HB3 : Hid (Below w.heap.size w (w2.alloc (.cells #[] 3))) := HB2.out.alloc HB2.out.size _
      have HCall := hidIt (HE0.out (w2.alloc (.cells #[] 3)) (.slice (some ⟨w2.heap.size, 0, none⟩) 0 0) HB3.out (HMS.out.below ((Below.refl _ _).alloc (Nat.le_refl _) _) (Nat.le_refl _)) (ints_owned (n := 0) (xs := []) HMk.out (by omega) (fun x hx => by simp at hx)))
      clear hm0
      simp only [List.length_nil] at *
      go_wp2_with (first | (at_builtin; refine wpList_append_own_none rfl (.tmp 15) (.tmp 16) 22 rfl w2.heap.size 3 i3 Try.underlying22 hi3 _ 0 [] rfl HMk.out rfl ?_) | (go_at_call 70; refine HCall.out.mono ?_))
      rintro e w4 ⟨a4, c4, rfl, ho⟩
      have HO : Hid (OutI w (.slice a4 (fillS l []).length c4) (fillS l []) w4) := by
        obtain ⟨fpe, us, p1, p2, p3, p4, p5, p6, p7⟩ := ho
        exact ⟨fpe, us, fun k hk => ⟨Nat.le_trans HB3.out.size (p1 k hk).1, (p1 k hk).2⟩, owns_mono p2 HB3.out.size, p3, p4, p5, HB3.out.trans (p6.mono HB3.out.size), p7⟩
      clear ho
      go_wp2
      go_ret
      exact ⟨_, _, rfl, HO.out⟩
    · go_wp2_with (at_builtin; go_must (refine wpList_append_own _ rfl (.tmp 15) (.tmp 16) 22 rfl w2.heap.size 3 i3 (.int .i64 0) 1 8 Try.underlying22 hi3 hz0 hz1 hz2 rfl (by decide) _ _ _ rfl (World.ownsRow_made w2 #[] 0 (Nat.le_refl _) (Nat.zero_le _) rfl) ad m.length cm (ints m) rfl (by simp [ints]) ?e1 (ints_oneCell _ _) (by unfold maxLen; omega) (by omega) (by simp) ?_))
      case e1 =>
        intro j y hj
        have hjl : j < m.length := by have := (List.getElem?_eq_some_iff.1 hj).1; simpa [ints] using this
        obtain ⟨b', o', e, hck'⟩ := HCM.out j hjl
        obtain rfl := Option.some.inj e
        have hck3 := (HB2.out.cell (p := ⟨b', o' + j, none⟩) (World.block_lt_of_cell? w _ hck')).trans hck'
        have hy' : y = .int .i64 (m.getD j 0) := by simp [ints, hjl] at hj; simp [hjl, ← hj]
        rw [Addr.add_lit, hy', ← hck3]
        exact World.cell?_alloc_past _ _ _ (World.block_lt_of_cell? w2 _ hck3)
      intro v3 w3 ho3 hg3 _
      have ho3' : w3.ownsRow w2.heap.size 3 1 v3 m.length (ints m) := by simpa using ho3
      have hb3 : Below w2.heap.size w2 w3 := ((Below.refl _ _).alloc (Nat.le_refl _) _).grown hg3 (by simp) (by intro k hk; simp [Value.ownBlock] at hk; omega)
      have HB3 : Hid (Below w.heap.size w w3) := HB2.out.trans (hb3.mono HB2.out.size)
      have HCall := hidIt (HE0.out w3 v3 HB3.out (HMS.out.below hb3 (Nat.le_refl _)) (ints_owned ho3' (by omega) HSm.out))
      clear ho3 ho3' hg3 hb3
      go_wp2_with fail
      refine HCall.out.mono ?_
      rintro e w4 ⟨a4, c4, rfl, ho⟩
      have HO : Hid (OutI w (.slice a4 (fillS l m).length c4) (fillS l m) w4) := by
        obtain ⟨fpe, us, p1, p2, p3, p4, p5, p6, p7⟩ := ho
        exact ⟨fpe, us, fun k hk => ⟨Nat.le_trans HB3.out.size (p1 k hk).1, (p1 k hk).2⟩, owns_mono p2 HB3.out.size, p3, p4, p5, HB3.out.trans (p6.mono HB3.out.size), p7⟩
      clear ho
      go_wp2
      go_ret
      exact ⟨_, _, rfl, HO.out⟩
  · have hne : (isum l != isum m) = true := by simp [he]
    have HN : Hid (fillS l m = []) := if_neg he
    clear hl hm hmn hs hc hlx he
    go_enter Try.func25, Try.ntmps25
    go_wp2_with fail
    refine HS1.out.mono ?_
    rintro e w' ⟨rfl, rfl⟩
    go_wp2_with fail
    refine HS2.out.mono ?_
    rintro e w' ⟨rfl, rfl⟩
    go_wp2
    go_ret
    rw [HN.out]
    exact ⟨_, _, rfl, OutI.nil w⟩
end Go.Proofs.Ytpblbolflnjjnaa
