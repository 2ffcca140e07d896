/- heights of a board: when rows are nested, sorted numbers; the reference's Heights -/
import Derived.Test.YtellnklbkjajbaaDoorRi
import Derived.Test.YtellnklbkjajbaaDoorSz
import Derived.Test.YtellnklbkjajbaaDoorSx
namespace Go.Proofs.YtellnklbkjajbaaDoor
open Go.RowKit

/-- Of any two rows one is within the other one. -/
def okB (bs : List Nat) : Bool := decide (∀ r ∈ bs, ∀ s ∈ bs, r &&& s = r ∨ r &&& s = s)
def szL (bs : List Nat) : List Int := nats (bs.map fl)
def htL (bs : List Nat) : List Int := risL (szL bs)
/-- What Heights answers. -/
def HtPost (bs : List Nat) (e : Ending) (w' : World) : Prop :=
  (okB bs = false ∧ e = .returned (.tuple #[.slice none 0 0, .int .i64 4])) ∨ (okB bs = true ∧ ∃ v', e = .returned (.tuple #[v', .int .i64 0]) ∧ Ints w' v' (htL bs))

theorem insS_perm (x : Int) : ∀ ys : List Int, (insS x ys).Perm (x :: ys)
  | [] => .refl _
  | y :: ys => by
    rw [insS]
    split
    · exact ((insS_perm x ys).cons y).trans (.swap _ _ _)
    · exact .refl _
theorem insS_sorted (x : Int) : ∀ ys : List Int, ys.Pairwise (· ≤ ·) → (insS x ys).Pairwise (· ≤ ·)
  | [], _ => by simp [insS]
  | y :: ys, h => by
    obtain ⟨h1, h2⟩ := List.pairwise_cons.1 h
    rw [insS]
    split
    · rename_i hyx
      refine List.pairwise_cons.2 ⟨fun z hz => ?_, insS_sorted x ys h2⟩
      rcases List.mem_cons.1 ((insS_perm x ys).mem_iff.1 hz) with rfl | hz
      · exact hyx
      · exact h1 z hz
    · refine List.pairwise_cons.2 ⟨fun z hz => ?_, h⟩
      rcases List.mem_cons.1 hz with rfl | hz
      · omega
      · have := h1 z hz; omega
theorem risL_said (xs : List Int) : (risL xs).Perm xs ∧ (risL xs).Pairwise (· ≤ ·) := by
  have : ∀ (xs l : List Int), l.Pairwise (· ≤ ·) → (xs.foldl (fun l x => insS x l) l).Perm (xs ++ l) ∧ (xs.foldl (fun l x => insS x l) l).Pairwise (· ≤ ·) := by
    intro xs
    induction xs with
    | nil => intro l h; exact ⟨.refl _, h⟩
    | cons x xs ih =>
      intro l h
      obtain ⟨a, b⟩ := ih _ (insS_sorted x l h)
      refine ⟨a.trans ?_, b⟩
      exact (((insS_perm x l).append_left xs).trans List.perm_middle)
  have h := this xs [] List.Pairwise.nil
  rwa [List.append_nil] at h
/-- Numbers in order are those that risL lays. -/
theorem risL_unique {xs ys : List Int} (hp : ys.Perm xs) (hs : ys.Pairwise (· ≤ ·)) : ys = risL xs := by
  obtain ⟨a, b⟩ := risL_said xs
  exact List.Perm.eq_of_pairwise (le := (· ≤ ·)) (fun x y _ _ h1 h2 => by omega) hs b (hp.trans a.symm)
theorem risL_perm {xs ys : List Int} (hp : ys.Perm xs) : risL ys = risL xs := risL_unique ((risL_said ys).1.trans hp) (risL_said ys).2

theorem fl_eq {a b : Nat} (ha : a < 64) (h : a &&& b = b) (hl : fl a ≤ fl b) : a = b := by
  refine Nat.eq_of_testBit_eq fun j => ?_
  have hjb : b.testBit j = (a.testBit j && b.testBit j) := by rw [← Nat.testBit_and, h]
  cases hj : a.testBit j with
  | false => rw [hj] at hjb; rw [hjb]; rfl
  | true =>
    cases hb' : b.testBit j with
    | true => rfl
    | false =>
      exfalso
      have hj6 : j < 6 := Nat.lt_of_not_le fun hle => by
        rw [Nat.testBit_lt_two_pow (Nat.lt_of_lt_of_le ha (Nat.pow_le_pow_right (n := 2) (by decide) (show 6 ≤ j from hle)))] at hj
        cases hj
      have h1 := fl_plus hj6 hb'
      have h2 : fl (b ||| 2 ^ j) ≤ fl a := fl_le fun i _ hi => by
        rw [Nat.testBit_or, Bool.or_eq_true, Nat.testBit_two_pow, decide_eq_true_eq] at hi
        rcases hi with hi | rfl
        · have : b.testBit i = (a.testBit i && b.testBit i) := by rw [← Nat.testBit_and, h]
          rw [hi] at this
          cases h3 : a.testBit i with
          | true => rfl
          | false => rw [h3] at this; cases this
        · exact hj
      omega
/-- Rows in the order of their sizes are nested exactly if each is within the next. -/
theorem chain_ok {rs : List Nat} (hlt : ∀ r ∈ rs, r < 64) (hs : ∀ i, i + 1 < rs.length → fl (rs.getD i 0) ≤ fl (rs.getD (i + 1) 0)) :
    okB rs = true ↔ ∀ i, i + 1 < rs.length → rs.getD i 0 &&& rs.getD (i + 1) 0 = rs.getD i 0 := by
  constructor
  · intro h i hi
    have h := of_decide_eq_true h
    rcases h _ (natD_mem (show i < rs.length by omega)) _ (natD_mem hi) with h | h
    · exact h
    · have e2 := fl_eq (hlt _ (natD_mem (show i < rs.length by omega))) h (hs i hi)
      rw [← e2, Nat.and_self]
  · intro h
    have up : ∀ d i, i + d < rs.length → rs.getD i 0 &&& rs.getD (i + d) 0 = rs.getD i 0 := by
      intro d
      induction d with
      | zero => intro i _; exact Nat.and_self _
      | succ d ih =>
        intro i hi
        have a := ih i (by omega)
        have b := h (i + d) (by omega)
        rw [← a, Nat.and_assoc, show i + (d + 1) = i + d + 1 by omega, b]
    refine decide_eq_true fun r hr s hs' => ?_
    obtain ⟨i, hi, rfl⟩ := List.mem_iff_getElem.1 hr
    obtain ⟨j, hj, rfl⟩ := List.mem_iff_getElem.1 hs'
    have gi : rs.getD i 0 = rs[i] := by simp [hi]
    have gj : rs.getD j 0 = rs[j] := by simp [hj]
    by_cases c : i ≤ j
    · left
      have := up (j - i) i (by omega)
      rwa [show i + (j - i) = j by omega, gi, gj] at this
    · right
      have := up (i - j) j (by omega)
      rw [show j + (i - j) = i by omega, gi, gj] at this
      rw [Nat.and_comm]; exact this
theorem okB_perm {rs bs : List Nat} (hp : rs.Perm bs) : okB rs = okB bs := by
  unfold okB
  have : (∀ r ∈ rs, ∀ s ∈ rs, r &&& s = r ∨ r &&& s = s) ↔ (∀ r ∈ bs, ∀ s ∈ bs, r &&& s = r ∨ r &&& s = s) :=
    ⟨fun h r hr s hs => h r (hp.mem_iff.2 hr) s (hp.mem_iff.2 hs), fun h r hr s hs => h r (hp.mem_iff.1 hr) s (hp.mem_iff.1 hs)⟩
  exact decide_eq_decide.2 this

theorem szL_I64 (bs : List Nat) (h : ∀ r ∈ bs, r < 64) : ∀ x ∈ szL bs, I64 x := nats_I64 fun x hx => by
  obtain ⟨r, hr, rfl⟩ := List.mem_map.1 hx
  have := fl_bd r (h r hr)
  omega

set_option maxRecDepth 100000 in
set_option maxHeartbeats 2000000 in
theorem rHeights_any (v : Value) (bs : List Nat) (n : Nat) (w : World) (hb : Brd n bs) (h : Nats w v bs) :
    Calls Tryd.prog 35 #[v] w fun e w' => HtPost bs e w' ∧ Below w.heap.size w w' := by
  have hn := hb.le
  have h64 : ∀ r ∈ bs, r < 64 := fun r hr => Nat.lt_of_lt_of_le (hb.lt r hr) (pw6 n hn).2
  obtain ⟨ao, cap, rfl, h1, h2, hx⟩ := h.cells
  rw [nats_length, hb.len] at h1 hx ⊢
  have HX := Lib.hid hx
  have HG : Hid (∀ k, bs.getD k 0 < 64) := Lib.hid fun k => Nat.lt_of_lt_of_le (hb.get k) (pw6 n hn).2
  have HM : Hid (∀ k, k < n → bs.getD k 0 ∈ bs) := Lib.hid fun k hk => natD_mem (by rw [hb.len]; exact hk)
  have HL : Hid ((bs.map fl).length = n) := Lib.hid (by rw [List.length_map, hb.len])
  have HA : Hid (∀ r ∈ bs, ∃ k, k < n ∧ bs.getD k 0 = r) := Lib.hid fun r hr => by
    obtain ⟨i, hi, rfl⟩ := List.mem_iff_getElem.1 hr
    exact ⟨i, by rw [← hb.len]; exact hi, by simp [hi]⟩
  have HF : Hid (∀ k, k < n → (bs.map fl).getD k 0 = fl (bs.getD k 0)) := Lib.hid fun k hk => by
    have : k < bs.length := by rw [hb.len]; exact hk
    simp [this]
  have HSz := Lib.hid (szL_I64 bs h64)
  have HRs := Lib.hid (fun v w h hl => rising_any v (szL bs) w h hl)
  have HSi := Lib.hid (fun x w hx => rsize_any x w hx)
  have HB0 := Lib.hid (Below.refl w.heap.size w)
  have HSL : Hid (szL bs = nats (bs.map fl)) := rfl
  obtain ⟨i0, hi, hz0, hz1, hz2⟩ := info_parts Tryd.info3
  clear h hb hx h64 h2
  go_enter Tryd.func35, Tryd.ntmps35
  go_wp2_with fail
  go_loopw [4, 11] (fun s ii wr => ∃ k : Nat, k ≤ n ∧ ii = .int .i64 k ∧ (∀ i, i < k → ∀ j, j < n → bs.getD i 0 &&& bs.getD j 0 = bs.getD i 0 ∨ bs.getD i 0 &&& bs.getD j 0 = bs.getD j 0) ∧
    wr.ownsRow w.heap.size 3 1 s (nats ((bs.map fl).take k)).length (ints (nats ((bs.map fl).take k))) ∧ Below w.heap.size w wr) (fun _ ii _ => n - (intOf ii).toNat)
  case atStart => exact ⟨0, Nat.zero_le _, rfl, fun i hi => absurd hi (Nat.not_lt_zero _), World.ownsRow_nil _ _ _ _, HB0.out⟩
  case round =>
    obtain ⟨k, hk, rfl, hp, hO, hB⟩ := hrel
    have HO := Lib.hid hO
    have HB := Lib.hid hB
    have HP := Lib.hid hp
    obtain ⟨ao', c', rfl⟩ := owns_form hO
    clear hO hB hp
    by_cases hlt : k < n
    · obtain ⟨b, o, rfl, hck⟩ := HX.out wr HB.out k hlt
      rw [nats_getD] at hck
      have hr := HG.out k
      have HR1 := Lib.hid (HSi.out (bs.getD k 0) wr hr)
      have HS := Lib.hid (natD_snoc (bs.map fl) k (by rw [HL.out]; exact hlt))
      rw [HF.out k hlt] at HS
      have hll : (nats ((bs.map fl).take k)).length ≤ 16 := by rw [nats_length, List.length_take]; omega
      generalize nats ((bs.map fl).take k) = tp at *
      obtain ⟨r, hre⟩ : ∃ r, bs.getD k 0 = r := ⟨_, rfl⟩
      have HRE := Lib.hid hre
      rw [hre] at hck hr HS HR1
      clear hre
      go_wp2_with fail
      go_loop [17] (fun jj => ∃ j : Nat, j ≤ n ∧ jj = .int .i64 j ∧ ∀ i, i < j → r &&& bs.getD i 0 = r ∨ r &&& bs.getD i 0 = bs.getD i 0) (fun jj => n - (intOf jj).toNat)
      case atStart => exact ⟨0, Nat.zero_le _, rfl, fun i hi => absurd hi (Nat.not_lt_zero _)⟩
      case round =>
        obtain ⟨j, hj, rfl, hq⟩ := hrel
        by_cases hjn : j < n
        · obtain ⟨b', o', e, hcj⟩ := HX.out wr HB.out j hjn
          cases e
          rw [nats_getD] at hcj
          have hs := HG.out j
          have hand := i64_and r (bs.getD j 0) (by omega) (by omega)
          by_cases c1 : r &&& bs.getD j 0 = r
          · have HQ : Hid (∀ i, i < j + 1 → r &&& bs.getD i 0 = r ∨ r &&& bs.getD i 0 = bs.getD i 0) := Lib.hid fun i hi => by
              by_cases e : i = j
              · subst e; exact .inl c1
              · exact hq i (by omega)
            rw [c1] at hand
            have hne : (((r : Nat) : Int) != ((r : Nat) : Int)) = false := bne_self_eq_false _
            clear hq c1
            generalize bs.getD j 0 = s at *
            go_wp2_with fail
            go_round
            case rel => exact ⟨j + 1, by omega, by go_num, HQ.out⟩
            case measure => simp [intOf]; omega
          · by_cases c2 : r &&& bs.getD j 0 = bs.getD j 0
            · have HQ : Hid (∀ i, i < j + 1 → r &&& bs.getD i 0 = r ∨ r &&& bs.getD i 0 = bs.getD i 0) := Lib.hid fun i hi => by
                by_cases e : i = j
                · subst e; exact .inr c2
                · exact hq i (by omega)
              have hne : (((bs.getD j 0 : Nat) : Int) != ((r : Nat) : Int)) = true := by
                rw [c2] at c1
                exact bne_iff_ne.2 fun h => c1 (by exact_mod_cast h)
              have hne2 : (((bs.getD j 0 : Nat) : Int) != ((bs.getD j 0 : Nat) : Int)) = false := bne_self_eq_false _
              rw [c2] at hand
              clear hq c1 c2
              generalize bs.getD j 0 = s at *
              go_wp2_with fail
              go_round
              case rel => exact ⟨j + 1, by omega, by go_num, HQ.out⟩
              case measure => simp [intOf]; omega
            · have HR : Hid (okB bs = false) := Lib.hid (decide_eq_false fun h => by
                have := h _ (HM.out k hlt) _ (HM.out j hjn)
                rw [HRE.out] at this
                exact this.elim c1 c2)
              have hne : (((r &&& bs.getD j 0 : Nat) : Int) != ((r : Nat) : Int)) = true := bne_iff_ne.2 fun h => c1 (by exact_mod_cast h)
              have hne2 : (((r &&& bs.getD j 0 : Nat) : Int) != ((bs.getD j 0 : Nat) : Int)) = true := bne_iff_ne.2 fun h => c2 (by exact_mod_cast h)
              clear hq c1 c2
              generalize r &&& bs.getD j 0 = t at *
              generalize bs.getD j 0 = s at *
              go_wp2_with fail
              go_ret2
              exact ⟨.inl ⟨HR.out, rfl⟩, HB.out⟩
        · obtain rfl : j = n := by omega
          have HQ : Hid (∀ i, i < k + 1 → ∀ m, m < j → bs.getD i 0 &&& bs.getD m 0 = bs.getD i 0 ∨ bs.getD i 0 &&& bs.getD m 0 = bs.getD m 0) := Lib.hid fun i hi m hm => by
            by_cases e : i = k
            · subst e; rw [HRE.out]; exact hq m hm
            · exact HP.out i (by omega) m hm
          have hf := fl_bd r hr
          clear hq
          generalize fl r = f at *
          go_wp2_with fail
          refine HR1.out.mono ?_
          rintro e w' ⟨rfl, rfl⟩
          go_wp2_with (at_builtin; refine wpList_append_own _ rfl _ _ 22 rfl w.heap.size 3 i0 (.int .i64 0) 1 8 Tryd.underlying22 hi hz0 hz1 hz2 rfl (by decide) _ _ _ rfl (HO.out.alloc _) ⟨wr.heap.size, 0, none⟩ 1 1 [.int .i64 f] rfl rfl (newOne _ _ _) (oneInt _) (by unfold maxLen; omega) (by omega) (by have := HB.out.size; simp; omega) ?_)
          intro v' w2 hown' hgrow _
          have HR := Lib.hid (int_step HO.out HB.out HB.out.size hown' hgrow)
          clear hown' hgrow
          go_wp2
          go_roundw
          case rel => exact ⟨k + 1, by omega, by go_num, HQ.out, by rw [HS.out]; exact HR.out.1, HR.out.2⟩
          case measure => simp [intOf]; omega
    · obtain rfl : k = n := by omega
      have HR : Hid (okB bs = true) := Lib.hid (decide_eq_true fun r hr s hs => by
        obtain ⟨i, hi, rfl⟩ := HA.out r hr
        obtain ⟨j, hj, rfl⟩ := HA.out s hs
        exact HP.out i hi j hj)
      have HE : Hid (nats ((bs.map fl).take k) = szL bs) := Lib.hid (by rw [HSL.out, List.take_of_length_le (by rw [HL.out]; exact Nat.le_refl _)])
      rw [HE.out] at HO ⊢
      have hsl : (szL bs).length = k := by rw [HSL.out, nats_length, HL.out]
      have HC := Lib.hid (HRs.out _ wr (Ints.of_owns HO.out (by omega) HSz.out) (by omega))
      have HH : Hid (risL (szL bs) = htL bs) := rfl
      rw [HH.out] at HC
      clear hsl HE
      generalize szL bs = sl at *
      go_wp2_with fail
      refine HC.out.mono ?_
      rintro e w2 ⟨v2, rfl, hv2, hb2⟩
      have HV := Lib.hid hv2
      have HB2 := Lib.hid (HB.out.trans (hb2.mono HB.out.size))
      clear hv2 hb2
      go_wp2_with fail
      go_ret2
      exact ⟨.inr ⟨HR.out, _, rfl, HV.out⟩, HB2.out⟩
end Go.Proofs.YtellnklbkjajbaaDoor
