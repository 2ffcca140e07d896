/- first and its closure -/
import Derived.Test.YtlalfjkenkmojaaLg
namespace Go.Proofs.Ytlalfjkenkmojaa
open Go.RowKit

structure FSt (w : World) (Bl base : Nat) (vl : Value) (l : List Nat) : Prop where
  cl : Box 22 w Bl vl
  ol : w.ownsRow base 3 1 vl l.length (ints (nats l))
def FS (Bl : Nat) (vl : Value) (k : Nat) : Prop := k = Bl ∨ vl.ownBlock = some k
structure FEnv (w : World) (N : Nat) (pre : Array Value) (k n Bl Bk Bn Bm Bg : Nat) : Prop where
  cm : Box 86 w Bm (.func (.func N) pre #[])
  ck : Box 3 w Bk (.int .i64 k)
  cn : Box 3 w Bn (.int .i64 n)
  cg : Box 31 w Bg (.func (.func 99) #[] #[.pointer (some ⟨Bl, 0, none⟩), .pointer (some ⟨Bk, 0, none⟩), .pointer (some ⟨Bn, 0, none⟩), .pointer (some ⟨Bm, 0, none⟩), .pointer (some ⟨Bg, 0, none⟩)])
theorem FEnv.mod {w w' : World} {N : Nat} {pre : Array Value} {k n Bl Bk Bn Bm Bg : Nat} {S : Nat → Prop} (h : FEnv w N pre k n Bl Bk Bn Bm Bg) (hm : Mod S w w') (h1 : ¬ S Bk) (h2 : ¬ S Bn) (h3 : ¬ S Bm) (h4 : ¬ S Bg) : FEnv w' N pre k n Bl Bk Bn Bm Bg :=
  ⟨h.cm.mod hm h3, h.ck.mod hm h1, h.cn.mod hm h2, h.cg.mod hm h4⟩
theorem FS.moved {Bl : Nat} {v v' : Value} {n k : Nat} (h : Moved v v' n) (hk : FS Bl v' k) : FS Bl v k ∨ n ≤ k := by
  rcases hk with hk | hk
  · exact .inl (.inl hk)
  · rcases h with h | ⟨g, hg, h⟩
    · exact .inl (.inr (h ▸ hk))
    · right
      rw [h] at hk
      obtain rfl := Option.some.inj hk
      exact hg
/-- What a call of the closure leaves: l is r. -/
def FPost (Bl base : Nat) (b : Bool) (r : List Nat) (vl : Value) (w : World) (e : Ending) (w' : World) : Prop :=
  e = .returned (.bool b) ∧ ∃ vl', FSt w' Bl base vl' r ∧ Moved vl vl' w.heap.size ∧ Mod (FS Bl vl) w w'
def outB (o : Option (List Nat)) : Bool := o.isSome
def outL (o : Option (List Nat)) (l : List Nat) : List Nat := o.getD l

/-- One number is put behind l. -/
theorem fst_push {wr w3 : World} {Bl base : Nat} {vli v3 : Value} {l : List Nat} {z : Nat} (hSt : FSt wr Bl base vli l) (hbl : Bl < base) {o : Obj}
    (hown : w3.ownsRow base 3 1 v3 (l.length + 1) (ints (nats l) ++ [.int .i64 z])) (hgrow : (wr.alloc o).grownBy w3 vli.ownBlock) (hat : v3.ownBlock = vli.ownBlock ∨ v3.ownBlock = some (wr.heap.size + 1)) :
    FSt (w3.setCell ⟨Bl, 0, none⟩ v3) Bl base v3 (l ++ [z]) ∧ Mod (FS Bl vli) wr (w3.setCell ⟨Bl, 0, none⟩ v3) ∧ Moved vli v3 wr.heap.size ∧ Box 22 w3 Bl vli := by
  have hM := (Mod.refl (fun k => vli.ownBlock = some k) wr).alloc o
  have hM3 : Mod (fun k => vli.ownBlock = some k) wr w3 := hM.trans (grown_mod hgrow) fun x hx => .inl hx
  have nb : ∀ B, B < base → ¬ vli.ownBlock = some B := fun B hB e => by have := (hSt.ol.lt _ e).1; omega
  have b1 := hSt.cl.mod hM3 (nb _ hbl)
  refine ⟨⟨b1.set v3, ownsRow_setCell_below (own_len hown (by simp) (by simp [ints, nats])) hbl v3⟩, ?_, ?_, b1⟩
  · exact (hM3.mono fun k hk => (.inr hk : FS Bl vli k)).setCell (.inl (.inl rfl)) v3
  · rcases hat with h | h
    · exact .inl h
    · exact .inr ⟨_, by omega, h⟩
/-- The last number is taken away. -/
theorem fst_pop {w : World} {Bl base : Nat} {ao : Option Addr} {n c : Nat} {l : List Nat} {z : Nat} (h : FSt w Bl base (.slice ao (n + 1) c) (l ++ [z])) (hn : n = l.length) (hbl : Bl < base) :
    FSt (w.setCell ⟨Bl, 0, none⟩ (.slice ao n c)) Bl base (.slice ao n c) l := by
  subst hn
  have h1 : w.ownsRow base 3 1 (.slice ao (l.length + 1) c) (l.length + 1) (ints (nats l) ++ [.int .i64 z]) := own_len h.ol (by simp) (by simp [ints, nats])
  exact ⟨h.cl.set _, ownsRow_setCell_below (owns_pop h1) hbl _⟩

theorem mod_of_below' {S : Nat → Prop} {a w : World} (h : Below a.heap.size a w) : Mod S a w := Mod.of_below h
theorem first_leaf (f : List Nat → Nat → Bool) (n : Nat) (l : List Nat) : firstN f n 0 l = some l := rfl
/-- What is still to be tried from x on. -/
def restF (f : List Nat → Nat → Bool) (n m : Nat) (l : List Nat) (x : Nat) : Option (List Nat) := (List.range' x (n - x)).findSome? fun x => if f l x then firstN f n m (l ++ [x]) else none
theorem restF_zero (f : List Nat → Nat → Bool) (n m : Nat) (l : List Nat) : restF f n m l 0 = firstN f n (m + 1) l := by
  unfold restF
  rw [firstN, List.range_eq_range', Nat.sub_zero]
theorem restF_end (f : List Nat → Nat → Bool) (n m : Nat) (l : List Nat) : restF f n m l n = none := by
  unfold restF; rw [Nat.sub_self]; rfl
theorem restF_no {f : List Nat → Nat → Bool} {n m : Nat} {l : List Nat} {x : Nat} (hx : x < n) (h : (if f l x then firstN f n m (l ++ [x]) else none) = none) : restF f n m l x = restF f n m l (x + 1) := by
  unfold restF
  rw [show n - x = (n - (x + 1)) + 1 by omega, List.range'_succ, List.findSome?_cons, h]
theorem restF_yes {f : List Nat → Nat → Bool} {n m : Nat} {l : List Nat} {x : Nat} {r : List Nat} (hx : x < n) (h : (if f l x then firstN f n m (l ++ [x]) else none) = some r) : restF f n m l x = some r := by
  unfold restF
  rw [show n - x = (n - (x + 1)) + 1 by omega, List.range'_succ, List.findSome?_cons, h]

set_option maxHeartbeats 4000000 in
set_option maxRecDepth 100000 in
theorem fgrow_any {N : Nat} {pre : Array Value} {f : List Nat → Nat → Bool} {D : List Nat → Nat → Prop} (hR : Rule N pre f D) (k n : Nat) (hk : k ≤ 1000) (hn : n ≤ 1000)
    (hD : ∀ l x, keepsL f l = true → l.length < k → (∀ z ∈ l, z < n) → x < n → D l x) (Bl Bk Bn Bm Bg base : Nat) (hd : Bl ≠ Bk ∧ Bl ≠ Bn ∧ Bl ≠ Bm ∧ Bl ≠ Bg) (hlt : Bl < base ∧ Bk < base ∧ Bn < base ∧ Bm < base ∧ Bg < base) (m : Nat) :
    ∀ (l : List Nat) (vl : Value) (w : World), l.length + m = k → keepsL f l = true → (∀ z ∈ l, z < n) → base ≤ w.heap.size → FEnv w N pre k n Bl Bk Bn Bm Bg → FSt w Bl base vl l →
      Calls Try.prog 99 #[.pointer (some ⟨Bl, 0, none⟩), .pointer (some ⟨Bk, 0, none⟩), .pointer (some ⟨Bn, 0, none⟩), .pointer (some ⟨Bm, 0, none⟩), .pointer (some ⟨Bg, 0, none⟩)] w (FPost Bl base (outB (firstN f n m l)) (outL (firstN f n m l) l) vl w) := by
  induction m with
  | zero =>
    intro l vl w hlk _ _ hb hE hS
    rw [first_leaf]
    have c1 := hS.cl.cell
    have c2 := hE.ck.cell
    obtain ⟨al, cl, rfl⟩ := owns_form hS.ol
    have he : ((l.length : Int) == (k : Int)) = true := beq_iff_eq.2 (by omega)
    have HP : Hid (FPost Bl base (outB (some l)) (outL (some l) l) (.slice al l.length cl) w (.returned (.bool true)) w) := Lib.hid ⟨rfl, _, hS, Moved.refl _ _, Mod.refl _ _⟩
    clear hE hS hR hD hlk
    go_enter Try.func99, Try.ntmps99
    go_wp2
    go_ret
    exact HP.out
  | succ m ih =>
    intro l vl w hlk hkp hln hb hE hS
    have c1 := hS.cl.cell
    have c2 := hE.ck.cell
    have c3 := hE.cn.cell
    obtain ⟨al, cl, rfl⟩ := owns_form hS.ol
    have he : ((l.length : Int) == (k : Int)) = false := beq_eq_false_iff_ne.2 (by omega)
    obtain ⟨F, hF⟩ : ∃ F, F = firstN f n (m + 1) l := ⟨_, rfl⟩
    rw [← hF]
    have HF : Hid (F = restF f n m l 0) := Lib.hid (by rw [hF, restF_zero])
    have HE := Lib.hid hE
    have HS := Lib.hid hS
    have HR := Lib.hid hR
    have HD := Lib.hid hD
    have HIH := Lib.hid ih
    have HKp := Lib.hid hkp
    have HLn := Lib.hid hln
    have HLk := Lib.hid hlk
    have hl1 : l.length ≤ 1000 := by omega
    have hent := hR.enter
    obtain ⟨i0, hi, hz0, hz1, hz2⟩ := info_parts Try.info3
    have hnS : ∀ B, B < base → Bl ≠ B → ¬ FS Bl (.slice al l.length cl) B := fun B h1 h2 h => by
      rcases h with e | e
      · exact h2 e.symm
      · have := (HS.out.ol.lt _ e).1; omega
    have HNS := Lib.hid hnS
    clear hE hS hR hD ih hkp hln hlk hF hnS
    go_enter Try.func99, Try.ntmps99
    go_wp2_with fail
    go_loopw [12] (fun i wr => ∃ (x : Nat) (vli : Value), x ≤ n ∧ i = .int .i64 x ∧ FSt wr Bl base vli l ∧ F = restF f n m l x ∧ Moved (.slice al l.length cl) vli w.heap.size ∧ Mod (FS Bl (.slice al l.length cl)) w wr) (fun i _ => n - (intOf i).toNat)
    case atStart => exact ⟨0, _, Nat.zero_le _, rfl, HS.out, HF.out, Moved.refl _ _, Mod.refl _ _⟩
    case round =>
      obtain ⟨x, vli, hx, rfl, hSt, hFx, hMv, hMd⟩ := hrel
      have HSt := Lib.hid hSt
      have HFx := Lib.hid hFx
      have HMv := Lib.hid hMv
      have HMd := Lib.hid hMd
      have HEr := Lib.hid (HE.out.mod hMd (HNS.out _ hlt.2.1 hd.1) (HNS.out _ hlt.2.2.1 hd.2.1) (HNS.out _ hlt.2.2.2.1 hd.2.2.1) (HNS.out _ hlt.2.2.2.2 hd.2.2.2))
      have hsz := hMd.size
      have hcl1 := hSt.cl.cell
      have hcm1 := HEr.out.cm.cell
      obtain ⟨al1, cl1, rfl⟩ := owns_form hSt.ol
      clear hSt hFx hMv hMd c1 c2 c3
      by_cases hlt2 : x < n
      · have HC1 := Lib.hid (HR.out.call (.slice al1 l.length cl1) l x wr (Nats.of_owns HSt.out.ol (by omega) fun y hy => by have := HLn.out y hy; omega) (HD.out l x HKp.out (by have := HLk.out; omega) HLn.out hlt2))
        cases hf : f l x with
        | false =>
          have HNo := Lib.hid (restF_no (f := f) (m := m) (l := l) hlt2 (by rw [hf]; rfl))
          rw [hf] at HC1
          clear hf
          go_wp2_with fail
          refine HC1.out.mono ?_
          rintro e w1 ⟨rfl, hb1⟩
          have HM1 := Lib.hid (HMd.out.trans (mod_of_below' hb1) fun k h => .inl h)
          have HS1 : Hid (FSt w1 Bl base (.slice al1 l.length cl1) l) := Lib.hid ⟨HSt.out.cl.below hb1, owns_below HSt.out.ol hb1 (Nat.le_refl _)⟩
          have HF1 : Hid (F = restF f n m l (x + 1)) := Lib.hid (by rw [HFx.out, HNo.out])
          clear hb1
          go_wp2
          go_roundw
          case rel => exact ⟨x + 1, _, by omega, by go_num, HS1.out, HF1.out, HMv.out, HM1.out⟩
          case measure => simp [intOf]; omega
        | true =>
          have HNo := Lib.hid (fun (h : firstN f n m (l ++ [x]) = none) => restF_no (f := f) (m := m) (l := l) hlt2 (by rw [hf]; exact h))
          have HYes := Lib.hid (fun r (h : firstN f n m (l ++ [x]) = some r) => restF_yes (f := f) (m := m) (l := l) hlt2 (by rw [hf]; exact h))
          have HK2 : Hid (keepsL f (l ++ [x]) = true) := Lib.hid (by rw [keepsL_snoc, HKp.out, hf]; rfl)
          rw [hf] at HC1
          clear hf
          go_wp2_with fail
          refine HC1.out.mono ?_
          rintro e w1 ⟨rfl, hb1⟩
          have HM1 := Lib.hid (HMd.out.trans (mod_of_below' hb1) fun k h => .inl h)
          have HS1 : Hid (FSt w1 Bl base (.slice al1 l.length cl1) l) := Lib.hid ⟨HSt.out.cl.below hb1, owns_below HSt.out.ol hb1 (Nat.le_refl _)⟩
          have HMv1 : Hid (Moved (.slice al l.length cl) (.slice al1 l.length cl1) w.heap.size) := HMv
          have HE1 : Hid (FEnv w1 N pre k n Bl Bk Bn Bm Bg) := Lib.hid ⟨HEr.out.cm.below hb1, HEr.out.ck.below hb1, HEr.out.cn.below hb1, HEr.out.cg.below hb1⟩
          have hsz1 := HM1.out.size
          have hcl2 := HS1.out.cl.cell
          clear hb1 HMd HSt HMv HEr hcl1 hcm1 HC1
          go_wp2_with (at_builtin; refine wpList_append_own_at _ rfl _ _ 22 rfl base 3 i0 (.int .i64 0) 1 8 Try.underlying22 hi hz0 hz1 hz2 rfl (by decide) _ _ _ rfl (HS1.out.ol.alloc _) ⟨w1.heap.size, 0, none⟩ 1 1 [.int .i64 x] rfl rfl (newOne _ _ _) (oneInt _) (by unfold maxLen; omega) (by omega) (by simp; omega) ?_)
          intro v3 w3 hown3 hgrow3 _ hat3
          obtain ⟨g3, c3, rfl, hg3, hc3⟩ := owns_some hown3
          obtain ⟨p1, p2, p3, p4⟩ := fst_push HS1.out hlt.1 hown3 hgrow3 (by simpa using hat3)
          have HnS1 : Hid (∀ B, B < base → Bl ≠ B → ¬ FS Bl (.slice al1 l.length cl1) B) := Lib.hid (fun B h1 h2 h => by
            rcases h with e | e
            · exact h2 e.symm
            · have := (HS1.out.ol.lt _ e).1; omega)
          have HE4 := Lib.hid (HE1.out.mod p2 (HnS1.out _ hlt.2.1 hd.1) (HnS1.out _ hlt.2.2.1 hd.2.1) (HnS1.out _ hlt.2.2.2.1 hd.2.2.1) (HnS1.out _ hlt.2.2.2.2 hd.2.2.2))
          have hcl3 := p4.cell
          have hfl3 := p4.fr
          have HS4 := Lib.hid p1
          have HM4 := Lib.hid (HM1.out.trans p2 fun k h => FS.moved HMv1.out h)
          have HMvA := Lib.hid (HMv1.out.trans p3 hsz1)
          have hcg4 := HE4.out.cg.cell
          have HSz4 : Hid (base ≤ (w3.setCell ⟨Bl, 0, none⟩ (.slice (some ⟨g3, 0, none⟩) (l.length + 1) c3)).heap.size) := Lib.hid (Nat.le_trans hb HM4.out.size)
          clear p1 p2 p3 p4 hown3 hgrow3 hat3 hcl2 hi hz0 hz1 hz2 HM1 HE1 HS1 HMv1 HnS1
          go_wp2_with fail
          generalize (w3.setCell ⟨Bl, 0, none⟩ (.slice (some ⟨g3, 0, none⟩) (l.length + 1) c3)) = w4 at *
          have HC9 := Lib.hid (HIH.out (l ++ [x]) (.slice (some ⟨g3, 0, none⟩) (l.length + 1) c3) w4 (by simp; have := HLk.out; omega) HK2.out (fun z hz => by
            simp at hz
            rcases hz with hz | rfl
            · exact HLn.out z hz
            · exact hlt2) HSz4.out HE4.out HS4.out)
          cases ho : firstN f n m (l ++ [x]) with
          | some r =>
            have HFr := Lib.hid (HYes.out r ho)
            rw [ho] at HC9
            clear ho HIH
            refine HC9.out.mono ?_
            rintro e w6 ⟨rfl, vl6, hs6, hv6, hm6⟩
            have HFF : Hid (FPost Bl base (outB F) (outL F l) (.slice al l.length cl) w (.returned (.bool true)) w6) := Lib.hid (by
              rw [HFx.out, HFr.out]
              exact ⟨rfl, vl6, hs6, HMvA.out.trans hv6 HM4.out.size, HM4.out.trans hm6 fun k h => FS.moved HMvA.out h⟩)
            clear hs6 hv6 hm6 HC9
            go_wp2
            go_ret
            exact HFF.out
          | none =>
            have HFr := Lib.hid (HNo.out ho)
            rw [ho] at HC9
            clear ho HIH
            refine HC9.out.mono ?_
            rintro e w6 ⟨rfl, vl6, hs6, hv6, hm6⟩
            obtain ⟨g6, c6, rfl, hg6, hc6⟩ := owns_some (own_len (m := l.length + 1) hs6.ol (by simp [outL]) rfl)
            have HPop := Lib.hid (fst_pop (z := x) hs6 rfl hlt.1)
            have HMvB : Hid (Moved (.slice al l.length cl) (.slice (some ⟨g6, 0, none⟩) l.length c6) w.heap.size) := Lib.hid (HMvA.out.trans hv6 HM4.out.size)
            have HMdB := Lib.hid ((HM4.out.trans hm6 fun k h => FS.moved HMvA.out h).setCell (p := ⟨Bl, 0, none⟩) (.inl (.inl rfl)) (.slice (some ⟨g6, 0, none⟩) l.length c6))
            have HF6 : Hid (F = restF f n m l (x + 1)) := Lib.hid (by rw [HFx.out, HFr.out])
            have hcl6 := hs6.cl.cell
            have hfl6 := hs6.cl.fr
            clear hs6 hv6 hm6 HC9 HMvA HM4
            go_wp2
            go_roundw
            case rel => exact ⟨x + 1, _, by omega, by go_num, HPop.out, HF6.out, HMvB.out, HMdB.out⟩
            case measure => simp [intOf]; omega
      · obtain rfl : x = n := by omega
        have HFF : Hid (FPost Bl base (outB F) (outL F l) (.slice al l.length cl) w (.returned (.bool false)) wr) := Lib.hid (by
          rw [HFx.out, restF_end]
          exact ⟨rfl, _, HSt.out, HMv.out, HMd.out⟩)
        go_wp2
        go_ret
        exact HFF.out
end Go.Proofs.Ytlalfjkenkmojaa
