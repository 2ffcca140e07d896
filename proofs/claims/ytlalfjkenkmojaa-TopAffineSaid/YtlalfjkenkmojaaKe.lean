/- rules; keepsTo, addable, between -/
import Derived.Test.YtlalfjkenkmojaaNa
import Derived.Shelf.Abstract
namespace Go.Proofs.Ytlalfjkenkmojaa
open Go.RowKit

/-- The function N, with what it has bound, is the rule f, where D holds. -/
structure Rule (N : Nat) (pre : Array Value) (f : List Nat → Nat → Bool) (D : List Nat → Nat → Prop) : Prop where
  enter : ∀ (args : Array Value) (w : World), (callFunc N args).run Try.prog w = .ok (.enter N args) w
  call : ∀ (v : Value) (l : List Nat) (x : Nat) (w : World), Nats w v l → D l x → Calls Try.prog N (pre ++ #[v, .int .i64 x]) w fun e w' => e = .returned (.bool (f l x)) ∧ Below w.heap.size w w'

theorem keeps_take_bad {f : List Nat → Nat → Bool} {l : List Nat} {k : Nat} (hk : k < l.length) (h : f (l.take k) (l.getD k 0) = false) : keepsL f l = false := by
  cases hh : keepsL f l with
  | false => rfl
  | true => rw [(keepsL_iff f l).1 hh k hk] at h; cases h
theorem keeps_take_more {f : List Nat → Nat → Bool} {l : List Nat} {k : Nat} (hk : k < l.length) (h0 : keepsL f (l.take k) = true) (h : f (l.take k) (l.getD k 0) = true) : keepsL f (l.take (k + 1)) = true := by
  rw [natT_snoc l k hk, keepsL_snoc, h0, h]; rfl

set_option maxHeartbeats 1000000 in
theorem keepsTo_any {N : Nat} {pre : Array Value} {f : List Nat → Nat → Bool} {D : List Nat → Nat → Prop} (hR : Rule N pre f D) (v : Value) (l : List Nat) (w : World) (h : Nats w v l)
    (hD : ∀ k, k < l.length → keepsL f (l.take k) = true → D (l.take k) (l.getD k 0)) :
    Calls Try.prog 63 #[.func (.func N) pre #[], v] w fun e w' => e = .returned (.bool (keepsL f l)) ∧ Below w.heap.size w w' := by
  have hent := hR.enter
  have HC := Lib.hid hR.call
  have HN := Lib.hid h
  obtain ⟨ao, cap, rfl, h1, h2, hx⟩ := h.open
  have HX := Lib.hid hx
  have HD := Lib.hid hD
  clear h hx hR hD
  go_enter Try.func63, Try.ntmps63
  go_wp2
  go_loopw [9] (fun i wr => ∃ k : Nat, k ≤ l.length ∧ i = .int .i64 k ∧ keepsL f (l.take k) = true ∧ Below w.heap.size w wr) (fun i _ => l.length - (intOf i).toNat)
  case atStart => exact ⟨0, Nat.zero_le _, rfl, rfl, Below.refl _ _⟩
  case round =>
    obtain ⟨k, hk, rfl, hall, hb⟩ := hrel
    have HA := Lib.hid hall
    have HB := Lib.hid hb
    clear hall hb
    by_cases hlt : k < l.length
    · have HC1 := Lib.hid (HC.out _ _ (l.getD k 0) _ ((HN.out.take (Nat.le_of_lt hlt)).below HB.out (Nat.le_refl _)) (HD.out k hlt HA.out))
      obtain ⟨b, o, rfl, hck⟩ := HX.out k hlt
      have hck' := ck hck HB.out
      clear hck
      cases hh : f (l.take k) (l.getD k 0) with
      | true =>
        have HM := Lib.hid (keeps_take_more hlt HA.out hh)
        rw [hh] at HC1
        clear hh
        generalize l.getD k 0 = z at *
        go_wp2_with fail
        refine HC1.out.mono ?_
        rintro e w1 ⟨rfl, hb1⟩
        have HB1 := Lib.hid (HB.out.trans (hb1.mono HB.out.size))
        clear hb1
        go_wp2
        go_roundw
        case rel => exact ⟨k + 1, by omega, by go_num, HM.out, HB1.out⟩
        case measure => simp [intOf]; omega
      | false =>
        have HM := Lib.hid (keeps_take_bad hlt hh)
        rw [hh] at HC1
        clear hh
        generalize l.getD k 0 = z at *
        go_wp2_with fail
        refine HC1.out.mono ?_
        rintro e w1 ⟨rfl, hb1⟩
        have HB1 := Lib.hid (HB.out.trans (hb1.mono HB.out.size))
        clear hb1
        go_wp2
        go_ret
        exact ⟨ret_bool HM.out.symm, HB1.out⟩
    · obtain rfl : k = l.length := by omega
      have HM : Hid (keepsL f l = true) := Lib.hid (by have := HA.out; rwa [List.take_length] at this)
      go_wp2
      go_ret
      exact ⟨ret_bool HM.out.symm, HB.out⟩

theorem filter_snoc {g : Nat → Bool} {l : List Nat} {k : Nat} (hk : k < l.length) : (l.take (k + 1)).filter g = (l.take k).filter g ++ (if g (l.getD k 0) then [l.getD k 0] else []) := by
  rw [natT_snoc l k hk, List.filter_append]
  cases h : g (l.getD k 0) <;> simp only [List.filter_cons, h] <;> simp
theorem filter_len {g : Nat → Bool} {l : List Nat} {k : Nat} : ((l.take k).filter g).length ≤ k := Nat.le_trans (List.length_filter_le _ _) (List.length_take_le _ _)
theorem nat_step {w wr w1 : World} {B : Nat} {v v' : Value} {xs : List Nat} {x : Nat} {o : Obj} (hown : wr.ownsRow B 3 1 v xs.length (ints (nats xs))) (hnx : Below B w wr) (hB : B ≤ wr.heap.size)
    (hown' : w1.ownsRow B 3 1 v' (xs.length + 1) (ints (nats xs) ++ [.int .i64 x])) (hg : (wr.alloc o).grownBy w1 v.ownBlock) :
    w1.ownsRow B 3 1 v' (xs ++ [x]).length (ints (nats (xs ++ [x]))) ∧ Below B w w1 := by
  have h := int_step (xs := nats xs) (x := (x:Int)) (by rwa [nats_length]) hnx hB (by rwa [nats_length]) hg
  rw [← nats_snoc, nats_length] at h
  exact h
theorem Nats.of_owns {w : World} {B : Nat} {v : Value} {xs : List Nat} (h : w.ownsRow B 3 1 v xs.length (ints (nats xs))) (hn : xs.length ≤ 17592186044416) (hb : ∀ x ∈ xs, x < 65536) : Nats w v xs := Ints.of_owns h hn (nats_I64 hb)

set_option maxHeartbeats 2000000 in
theorem addable_any {N : Nat} {pre : Array Value} {f : List Nat → Nat → Bool} {D : List Nat → Nat → Prop} (hR : Rule N pre f D) (v u : Value) (l ns : List Nat) (w : World) (h : Nats w v l) (hu : Nats w u ns) (hs : ns.length ≤ 1000)
    (hb : ∀ x ∈ ns, x < 65536) (hD : ∀ x ∈ ns, D l x) :
    Calls Try.prog 65 #[.func (.func N) pre #[], v, u] w fun e w' => ∃ v', e = .returned v' ∧ w'.ownsRow w.heap.size 3 1 v' (ns.filter (f l)).length (ints (nats (ns.filter (f l)))) ∧ Below w.heap.size w w' := by
  have hent := hR.enter
  have HC := Lib.hid hR.call
  have HN := Lib.hid h
  obtain ⟨ao, cap, rfl, h1, h2, hx⟩ := hu.open
  have HX := Lib.hid hx
  have HD := Lib.hid hD
  have HBd := Lib.hid hb
  obtain ⟨i0, hi, hz0, hz1, hz2⟩ := info_parts Try.info3
  clear h hx hR hD hu hb
  go_enter Try.func65, Try.ntmps65
  go_wp2_with fail
  go_loopw [7, 12] (fun s i wr => ∃ k : Nat, k ≤ ns.length ∧ i = .int .i64 k ∧ wr.ownsRow w.heap.size 3 1 s ((ns.take k).filter (f l)).length (ints (nats ((ns.take k).filter (f l)))) ∧ Below w.heap.size w wr) (fun _ i _ => ns.length - (intOf i).toNat)
  case atStart => exact ⟨0, Nat.zero_le _, rfl, World.ownsRow_nil _ _ _ _, Below.refl _ _⟩
  case round =>
    obtain ⟨k, hk, rfl, hO, hb⟩ := hrel
    have HO := Lib.hid hO
    have HB := Lib.hid hb
    obtain ⟨ao', c', rfl⟩ := owns_form hO
    clear hO hb
    by_cases hlt : k < ns.length
    · have HC1 := Lib.hid (HC.out _ _ (ns.getD k 0) _ (HN.out.below HB.out (Nat.le_refl _)) (HD.out _ (natD_mem hlt)))
      obtain ⟨b, o, rfl, hck⟩ := HX.out k hlt
      have hck' := ck hck HB.out
      have hzb := HBd.out _ (natD_mem hlt)
      clear hck
      have HS := Lib.hid (filter_snoc (g := f l) hlt)
      have hfl := filter_len (g := f l) (l := ns) (k := k)
      cases hh : f l (ns.getD k 0) with
      | true =>
        rw [hh] at HC1 HS
        rw [if_pos rfl] at HS
        clear hh
        generalize ns.getD k 0 = z at *
        go_wp2_with fail
        refine HC1.out.mono ?_
        rintro e w1 ⟨rfl, hb1⟩
        have HB1 := Lib.hid (HB.out.trans (hb1.mono HB.out.size))
        have HO1 := Lib.hid (owns_below HO.out hb1 (Nat.le_refl _))
        clear hb1
        generalize (ns.take k).filter (f l) = tp at *
        go_wp2_with (at_builtin; refine wpList_append_own _ rfl _ _ 22 rfl w.heap.size 3 i0 (.int .i64 0) 1 8 Try.underlying22 hi hz0 hz1 hz2 rfl (by decide) _ _ _ rfl (HO1.out.alloc _) ⟨w1.heap.size, 0, none⟩ 1 1 [.int .i64 z] rfl rfl (newOne _ _ _) (oneInt _) (by unfold maxLen; omega) (by omega) (by have := HB1.out.size; simp; omega) ?_)
        intro v' w2 hown' hgrow _
        have HR := Lib.hid (nat_step HO1.out HB1.out HB1.out.size hown' hgrow)
        clear hown' hgrow
        go_wp2
        go_roundw
        case rel => exact ⟨k + 1, by omega, by go_num, by rw [HS.out]; exact HR.out.1, HR.out.2⟩
        case measure => simp [intOf]; omega
      | false =>
        rw [hh] at HC1 HS
        simp only [Bool.false_eq_true, if_false, List.append_nil] at HS
        clear hh
        generalize ns.getD k 0 = z at *
        go_wp2_with fail
        refine HC1.out.mono ?_
        rintro e w1 ⟨rfl, hb1⟩
        have HB1 := Lib.hid (HB.out.trans (hb1.mono HB.out.size))
        have HO1 := Lib.hid (owns_below HO.out hb1 (Nat.le_refl _))
        clear hb1
        go_wp2
        go_roundw
        case rel => exact ⟨k + 1, by omega, by go_num, by rw [HS.out]; exact HO1.out, HB1.out⟩
        case measure => simp [intOf]; omega
    · obtain rfl : k = ns.length := by omega
      have HE : Hid (ns.take ns.length = ns) := Lib.hid List.take_length
      have HO2 : Hid (wr.ownsRow w.heap.size 3 1 (.slice ao' ((ns.take ns.length).filter (f l)).length c') (ns.filter (f l)).length (ints (nats (ns.filter (f l))))) := Lib.hid (by
        have h := HO.out
        simp only [HE.out] at h ⊢
        exact h)
      go_wp2
      go_ret
      exact ⟨_, rfl, HO2.out, HB.out⟩

set_option maxHeartbeats 1000000 in
theorem between_any (a b : Nat) (w : World) (hab : a ≤ b) (hb : b ≤ 1000) :
    Calls Try.prog 66 #[.int .i64 a, .int .i64 b] w fun e w' => ∃ v', e = .returned v' ∧ Nats w' v' (List.range' a (b - a)) ∧ Below w.heap.size w w' := by
  obtain ⟨i0, hi, hz0, hz1, hz2⟩ := info_parts Try.info3
  go_enter Try.func66, Try.ntmps66
  go_wp2_with fail
  go_loopw [5, 6] (fun s i wr => ∃ k : Nat, a + k ≤ b ∧ i = .int .i64 ((a + k : Nat) : Int) ∧ wr.ownsRow w.heap.size 3 1 s (List.range' a k).length (ints (nats (List.range' a k))) ∧ Below w.heap.size w wr) (fun _ i _ => b - (intOf i).toNat)
  case atStart => exact ⟨0, hab, rfl, World.ownsRow_nil _ _ _ _, Below.refl _ _⟩
  case round =>
    obtain ⟨k, hk, rfl, hO, hb⟩ := hrel
    have HO := Lib.hid hO
    have HB := Lib.hid hb
    obtain ⟨ao', c', rfl⟩ := owns_form hO
    clear hO hb
    obtain ⟨z, hz⟩ : ∃ z, z = a + k := ⟨_, rfl⟩
    have HS : Hid (List.range' a (k + 1) = List.range' a k ++ [z]) := Lib.hid (by rw [hz, List.range'_1_concat])
    have HZ := Lib.hid hz
    have hlen : (List.range' a k).length ≤ 1000 := by rw [List.length_range']; omega
    rw [← hz]
    by_cases hlt : z < b
    · clear hz
      generalize List.range' a k = tp at *
      go_wp2_with (at_builtin; refine wpList_append_own _ rfl _ _ 22 rfl w.heap.size 3 i0 (.int .i64 0) 1 8 Try.underlying22 hi hz0 hz1 hz2 rfl (by decide) _ _ _ rfl (HO.out.alloc _) ⟨wr.heap.size, 0, none⟩ 1 1 [.int .i64 z] rfl rfl (newOne _ _ _) (oneInt _) (by unfold maxLen; omega) (by omega) (by have := HB.out.size; simp; omega) ?_)
      intro v' w2 hown' hgrow _
      have HR := Lib.hid (nat_step HO.out HB.out HB.out.size hown' hgrow)
      clear hown' hgrow
      go_wp2
      go_roundw
      case rel => exact ⟨k + 1, by have := HZ.out; omega, vint (by have := HZ.out; omega), by rw [HS.out]; exact HR.out.1, HR.out.2⟩
      case measure => have := HZ.out; simp [intOf]; omega
    · have hkb : k = b - a := by omega
      have HV : Hid (Nats wr (.slice ao' (List.range' a k).length c') (List.range' a (b - a))) := Lib.hid (by
        rw [← hkb]
        exact Nats.of_owns HO.out (by omega) fun x hx => by rw [List.mem_range'_1] at hx; omega)
      clear hz hkb
      go_wp2
      go_ret
      exact ⟨_, rfl, HV.out, HB.out⟩
end Go.Proofs.Ytlalfjkenkmojaa
