/- the shapes of the reference: shapes 91, Shapes 65 -/
import Derived.Test.YtlnbodpdgebflaaWh
import Derived.ArgAppend
namespace Go.Proofs.Ytlnbodpdgebflaa
open Go.RowKit

/-- Rows that fall: how the reference goes on from rows already begun. -/
def shL : Nat → Nat → Nat → List Nat → List (List Nat)
  | 0, _, _, acc => [acc]
  | f + 1, n, most, acc => if n = 0 then [acc] else (List.range (min n most)).flatMap fun x => shL f (n - (x + 1)) (x + 1) (acc ++ [x + 1])
def shK (f n : Nat) (acc : List Nat) (k : Nat) : List (List Nat) := (List.range k).flatMap fun x => shL f (n - (x + 1)) (x + 1) (acc ++ [x + 1])
theorem shK_succ (f n : Nat) (acc : List Nat) (k : Nat) : shK f n acc (k + 1) = shK f n acc k ++ shL f (n - (k + 1)) (k + 1) (acc ++ [k + 1]) := by
  unfold shK; rw [List.range_succ, List.flatMap_append]; simp
theorem shL_pos : ∀ (f n most : Nat) (acc : List Nat), n ≤ f → (0 < most ∨ n = 0) → 0 < (shL f n most acc).length
  | 0, _, _, _, _, _ => by simp [shL]
  | f + 1, n, most, acc, h, hm => by
    unfold shL
    by_cases h0 : n = 0
    · simp [h0]
    · rw [if_neg h0]
      have := shL_pos f (n - (0 + 1)) (0 + 1) (acc ++ [0 + 1]) (by omega) (.inl (by omega))
      obtain ⟨q, hq⟩ : ∃ q, min n most = q + 1 := ⟨min n most - 1, by omega⟩
      rw [hq, List.range_succ_eq_map]
      simp only [List.flatMap_cons, List.length_append]
      omega
theorem shL_len : ∀ (f n most : Nat) (acc : List Nat), n ≤ f → (shL f n most acc).length ≤ 2 ^ n
  | 0, n, _, _, _ => by simp [shL]; exact Nat.one_le_two_pow
  | f + 1, n, most, acc, h => by
    unfold shL
    by_cases h0 : n = 0
    · simp [h0]
    · rw [if_neg h0]
      have key : ∀ k, k ≤ n → (shK f n acc k).length + 2 ^ (n - k) ≤ 2 ^ n := by
        intro k
        induction k with
        | zero => intro _; simp [shK]
        | succ k ih =>
          intro hk
          have h1 := ih (by omega)
          have h2 := shL_len f (n - (k + 1)) (k + 1) (acc ++ [k + 1]) (by omega)
          rw [shK_succ, List.length_append]
          have e : 2 ^ (n - k) = 2 ^ (n - (k + 1)) + 2 ^ (n - (k + 1)) := by
            rw [show n - k = (n - (k + 1)) + 1 by omega, Nat.pow_succ]; omega
          omega
      have := key (min n most) (by omega)
      have h9 : 0 < 2 ^ (n - min n most) := Nat.two_pow_pos _
      unfold shK at this
      omega
theorem AllW.below {W W' : World} {B C : Nat} {v : Value} {L : List (List Nat)} (h : AllW W B v L) (hb : Below C W W') (hC : W.heap.size ≤ C) : AllW W' B v L := by
  obtain ⟨vs, o1, o2⟩ := h
  exact ⟨vs, owns_below o1 hb hC, fun j u l a b => (o2 j u l a b).below (hb.mono hC)⟩
theorem AllW.cat {W w9 : World} {B B' nl nl' : Nat} {v v' v9 : Value} {L L' : List (List Nat)} {vs vs' : List Value} (hl1 : nl = L.length) (hl2 : nl' = L'.length) (o1 : W.ownsRow B 24 1 v nl vs) (o2 : ∀ (j : Nat) (u : Value) (l : List Nat), vs[j]? = some u → L[j]? = some l → OWn W u l)
    (_o : W.ownsRow B' 24 1 v' nl' vs') (o2' : ∀ (j : Nat) (u : Value) (l : List Nat), vs'[j]? = some u → L'[j]? = some l → OWn W u l) (hg : W.grownBy w9 v.ownBlock) (ho : w9.ownsRow B 24 1 v9 (nl + nl') (vs ++ vs')) : AllW w9 B v9 (L ++ L') := by
  subst hl1 hl2
  have hvl : vs.length = L.length := by have := o1.1; omega
  have K : ∀ {y : Value} {l : List Nat}, OWn W y l → OWn w9 y l := fun {y l} hh => World.ownsRow.kept hh hg (own_own hh o1 (by decide))
  refine ⟨vs ++ vs', by rw [List.length_append]; exact ho, fun j u l hx hl => ?_⟩
  rcases Nat.lt_or_ge j vs.length with hj | hj
  · rw [List.getElem?_append_left hj] at hx
    rw [List.getElem?_append_left (by omega)] at hl
    exact K (o2 j u l hx hl)
  · rw [List.getElem?_append_right hj] at hx
    rw [List.getElem?_append_right (by omega), ← hvl] at hl
    exact K (o2' _ u l hx hl)
theorem own_oneCell {W : World} {B n : Nat} {v : Value} {L : List (List Nat)} {vs : List Value} (o1 : W.ownsRow B 24 1 v n vs) (hn : L.length = n) (o2 : ∀ (j : Nat) (u : Value) (l : List Nat), vs[j]? = some u → L[j]? = some l → OWn W u l) : ∀ u ∈ vs, u.oneCell' = true := by
  intro u hu
  have hvl : vs.length = L.length := by have := o1.1; omega
  obtain ⟨j, hj, e⟩ := List.getElem_of_mem hu
  have h9 := o2 j u L[j] (by rw [List.getElem?_eq_getElem hj, e]) (List.getElem?_eq_getElem (by omega))
  obtain ⟨a, c, rfl⟩ := owns_form h9
  rfl

set_option maxHeartbeats 1000000 in
theorem shapes_zero (most : Nat) (acc : List Nat) (v : Value) (W : World) (h : OWn W v acc) :
    Calls Try.prog 91 #[.int .i64 (0 : Nat), .int .i64 most, v] W fun e w' => ∃ v', e = .returned v' ∧ AllW w' W.heap.size v' [acc] ∧ Below W.heap.size W w' := by
  obtain ⟨a, c, rfl⟩ := owns_form h
  have H := Lib.hid h
  clear h
  go_enter Try.func91, Try.ntmps91
  go_wp2_with fail
  go_ret
  refine ⟨_, rfl, ⟨[.slice a acc.length c], ?_, fun j u l hx hl => ?_⟩, a1 W _⟩
  · exact World.ownsRow_lit (base := W.heap.size) (e := 24) (size := 1) W #[.slice a acc.length c] 1 (Nat.le_refl _) (by unfold maxLen; omega) (by simp)
  · cases j with
    | zero =>
      simp only [List.getElem?_cons_zero, Option.some.injEq] at hx hl
      subst hx hl
      exact H.out.below (a1 W _)
    | succ j => simp at hx

set_option maxRecDepth 20000 in
set_option maxHeartbeats 2000000 in
theorem shapes_any : ∀ (f n most : Nat) (acc : List Nat) (v : Value) (W : World), n ≤ f → f ≤ 8 → most ≤ 8 → (0 < most ∨ n = 0) → acc.length + n ≤ 8 → (∀ x ∈ acc, x < 65536) → OWn W v acc →
    Calls Try.prog 91 #[.int .i64 n, .int .i64 most, v] W fun e w' => ∃ v', e = .returned v' ∧ AllW w' W.heap.size v' (shL f n most acc) ∧ Below W.heap.size W w' := by
  intro f
  induction f with
  | zero =>
    intro n most acc v W hn _ _ _ _ _ h
    obtain rfl : n = 0 := by omega
    exact shapes_zero most acc v W h
  | succ f ih =>
    intro n most acc v W hn hf hm hp hl hx h
    by_cases h0 : n = 0
    · subst h0
      have := shapes_zero most acc v W h
      simpa [shL] using this
    · obtain ⟨a, c, rfl⟩ := owns_form h
      obtain ⟨i0, hi0, hz0, hz1, hz2⟩ := info_parts Try.info3
      obtain ⟨i4, hi4, hy0, hy1, hy2⟩ := info_parts Try.info24
      have HI := Lib.hid (fun k (hk : k < min n most) v W h => ih (n - (k + 1)) (k + 1) (acc ++ [k + 1]) v W (by omega) (by omega) (by omega) (.inl (by omega)) (by simp; omega) (fun z hz => by
        rcases List.mem_append.1 hz with hz | hz
        · exact hx z hz
        · rw [List.mem_singleton.1 hz]; omega) h)
      have HP := Lib.hid (fun k (hk : k < min n most) => shL_pos f (n - (k + 1)) (k + 1) (acc ++ [k + 1]) (by omega) (.inl (by omega)))
      have HL := Lib.hid (fun k (hk : k < min n most) => shL_len f (n - (k + 1)) (k + 1) (acc ++ [k + 1]) (by omega))
      have HK : Hid (∀ k, k ≤ min n most → (shK f n acc k).length ≤ 256) := Lib.hid (fun k hk => by
        have h1 := shL_len (f + 1) n k acc hn
        have e : shL (f + 1) n k acc = shK f n acc k := by unfold shL shK; rw [if_neg h0, show min n k = k by omega]
        rw [e] at h1
        have : 2 ^ n ≤ 2 ^ 8 := Nat.pow_le_pow_right (by decide) (by omega)
        omega)
      have HE : Hid (shL (f + 1) n most acc = shK f n acc (min n most)) := Lib.hid (by unfold shL shK; rw [if_neg h0])
      obtain ⟨mn, hmn⟩ : ∃ mn, mn = min n most := ⟨_, rfl⟩
      have hmi : min (n : Int) (most : Int) = (mn : Int) := by omega
      have hmn8 : mn ≤ n := by omega
      have hn0 : ((n : Int) == 0) = false := beq_eq_false_iff_ne.2 (by omega)
      rw [← hmn] at HI HP HL HK HE
      have H := Lib.hid h
      have HX := Lib.hid hx
      obtain ⟨la, hla⟩ : ∃ la, la = acc.length := ⟨_, rfl⟩
      rw [← hla] at hl
      rw [← hla] at H
      have HLA := Lib.hid hla
      have hac : la ≤ c := by
        rw [hla]
        obtain ⟨_, h2⟩ := h
        rcases h2 with ⟨e, e2⟩ | ⟨_, _, _, e, _, _, h3, _⟩
        · simp only [Value.slice.injEq] at e; omega
        · simp only [Value.slice.injEq] at e; omega
      clear ih hp hx h hmn
      rw [← hla]
      clear hla
      go_enter Try.func91, Try.ntmps91
      go_wp2_with fail
      go_loopw [8, 7] (fun i o wr => ∃ k : Nat, k ≤ mn ∧ i = .int .i64 ((k + 1 : Nat) : Int) ∧ AllW wr W.heap.size o (shK f n acc k) ∧ Below W.heap.size W wr) (fun i _ _ => mn + 1 - (intOf i).toNat)
      case atStart => exact ⟨0, Nat.zero_le _, rfl, ⟨[], ⟨rfl, .inl ⟨rfl, rfl⟩⟩, fun j u l a b => by simp at a⟩, Below.refl _ _⟩
      case round =>
        obtain ⟨k, hk, rfl, hA, hb⟩ := hrel
        by_cases hkl : k < mn
        · have HHr := Lib.hid (H.out.below hb)
          have HNr : Hid (Nats wr (.slice a la c) acc) := Lib.hid (HHr.out.nats (by rw [← HLA.out]; omega) HX.out)
          obtain ⟨-, hcn, hcc⟩ := Nats.cells HNr.out
          have HCC := Lib.hid hcc
          have HCN : Hid (a = none → la = 0 ∧ c = 0) := Lib.hid (fun e => by
            obtain ⟨_, h2⟩ := H.out
            rcases h2 with ⟨e2, _⟩ | ⟨_, _, _, e2, _⟩
            · simp only [Value.slice.injEq] at e2; exact ⟨e2.2.1, e2.2.2⟩
            · rw [e] at e2; simp at e2)
          obtain ⟨vs, o1, o2⟩ := hA
          obtain ⟨oa, oc, rfl⟩ := owns_form o1
          have HO1 := Lib.hid o1
          have HO2 := Lib.hid o2
          have HB := Lib.hid hb
          have hkl8 := HK.out k (by omega)
          have hLk := HL.out k hkl
          have hPk := HP.out k hkl
          have h2n : 2 ^ (n - (k + 1)) ≤ 2 ^ 8 := Nat.pow_le_pow_right (by decide) (by omega)
          have HIk := Lib.hid (fun v W h => HI.out k hkl v W h)
          have e1 : ((n - (k + 1) : Nat) : Int) = (n : Int) - ((k : Int) + 1) := by omega
          have e2 : ((k + 1 : Nat) : Int) = (k : Int) + 1 := by omega
          rw [e1, e2] at HIk
          clear e1 e2
          have HSK := Lib.hid (shK_succ f n acc k)
          obtain ⟨nr, hnr⟩ : ∃ nr, nr = (shL f (n - (k + 1)) (k + 1) (acc ++ [k + 1])).length := ⟨_, rfl⟩
          rw [← hnr] at hLk hPk
          obtain ⟨lo, hlo⟩ : ∃ lo, lo = (shK f n acc k).length := ⟨_, rfl⟩
          rw [← hlo] at hkl8
          have HNR := Lib.hid hnr
          have HLO := Lib.hid hlo
          rw [← hlo] at HO1
          rw [← hlo]
          clear o1 o2 hb hcn hcc hnr hlo
          have hkn : (k : Int) + 1 ≤ (n : Int) := by omega
          have hkm : (k : Int) + 1 ≤ (most : Int) := by omega
          rcases Nat.lt_or_ge most n with hnm | hnm
          · have hnm2 : ¬ (n : Int) ≤ (most : Int) := by omega
            have hnm3 : min (n : Int) (most : Int) = (most : Int) := by omega
            cases a with
            | none =>
              obtain ⟨rfl, rfl⟩ := HCN.out rfl
              go_wp2_with (first
                | (at_builtin; refine wpList_append_grows _ rfl _ _ 24 rfl 3 i0 (.int .i64 0) 1 8 Try.underlying24 hi0 hz0 hz1 hz2 rfl (by decide) none 0 0 (ints (nats acc)) rfl (fun _ => ⟨rfl, rfl⟩) (by rw [ints_length, nats_length, ← HLA.out]) (fun b e j u hj => ck (HCC.out b e j u hj) (a1 _ _)) ⟨wr.heap.size, 0, none⟩ 1 1 [.int .i64 ((k : Int) + 1)] rfl rfl (newOne _ _ _) (oneInt _) (by omega) (by unfold maxLen; omega) (by omega) ?_; intro v5 w5 hown5 hg5)
                | fail)
              have hb5 : Below wr.heap.size wr w5 := (a1 wr _).grown hg5 (by simp) fun q e => by cases e
              have HB5 := Lib.hid hb5
              have HV5 : Hid (OWn w5 v5 (acc ++ [k + 1])) := Lib.hid (by
                have e1 : ints (nats acc) ++ [.int .i64 ((k : Int) + 1)] = ints (nats (acc ++ [k + 1])) := by simp [ints, nats]
                have e2 : 0 + 1 = (acc ++ [k + 1]).length := by rw [List.length_append, ← HLA.out]; rfl
                rw [e1, e2] at hown5
                exact owns_mono hown5 (Nat.zero_le _))
              have HC5 := Lib.hid (HIk.out v5 w5 HV5.out)
              obtain ⟨q5, qc5, rfl⟩ := owns_form hown5
              clear hown5 hg5 hb5 HV5
              refine HC5.out.mono ?_
              clear HC5
              rintro e w6 ⟨v6, rfl, ⟨vs6, p1, p2⟩, hb6⟩
              rw [← HNR.out] at p1
              obtain ⟨b6, c6, rfl, _⟩ := own_lit p1 hPk
              have HB6 : Hid (Below wr.heap.size wr w6) := Lib.hid (HB5.out.trans (hb6.mono HB5.out.size))
              have hO6 : w6.ownsRow W.heap.size 24 1 (.slice oa lo oc) lo vs := owns_below HO1.out HB6.out (Nat.le_refl _)
              have HO6 := Lib.hid hO6
              have HO26 : Hid (∀ (j : Nat) (u : Value) (l : List Nat), vs[j]? = some u → (shK f n acc k)[j]? = some l → OWn w6 u l) := Lib.hid fun j u l a b => (HO2.out j u l a b).below HB6.out
              have HP1 := Lib.hid p1
              have HP2 := Lib.hid p2
              have hv6 : vs6.length = nr := by have := p1.1; omega
              have hws : W.heap.size ≤ w6.heap.size := Nat.le_trans HB.out.size HB6.out.size
              clear p1 p2 hb6 hO6
              go_wp2_with (first | (at_builtin; refine wpList_append_own _ rfl _ _ 33 rfl W.heap.size 24 i4 (.slice none 0 0) 1 24 Try.underlying33 hi4 hy0 hy1 hy2 rfl (by decide) (.slice oa lo oc) lo vs rfl HO6.out ⟨b6, 0, none⟩ nr c6 vs6 rfl (by omega) (fun j u hj => by
                  rw [Addr.add_lit, Nat.zero_add, World.ownsRow.cellAt HP1.out j (by have := (List.getElem?_eq_some_iff.1 hj).1; omega), hj]) (own_oneCell HP1.out HNR.out.symm HP2.out) (by unfold maxLen; omega) (by omega) hws ?_; intro v9 w9 hown9 hg9 _) | fail)
              have HA9 : Hid (AllW w9 W.heap.size v9 (shK f n acc (k + 1))) := Lib.hid (by
                rw [HSK.out]
                exact AllW.cat HLO.out HNR.out HO6.out HO26.out HP1.out HP2.out hg9 hown9)
              have HB9 : Hid (Below W.heap.size W w9) := Lib.hid ((HB.out.trans (HB6.out.mono HB.out.size)).grown hg9 hws fun q e => (HO6.out.lt q e).1)
              obtain ⟨a9, c9, rfl⟩ := owns_form hown9
              clear hown9 hg9
              go_roundw
              case rel => exact ⟨k + 1, by omega, by go_num, HA9.out, HB9.out⟩
              case measure => simp [intOf]; omega
            | some ab =>
              go_wp2_with (first
                | (at_builtin; refine wpList_append_grows _ rfl _ _ 24 rfl 3 i0 (.int .i64 0) 1 8 Try.underlying24 hi0 hz0 hz1 hz2 rfl (by decide) (some ab) la la (ints (nats acc)) rfl (fun e => by cases e) (by rw [ints_length, nats_length, ← HLA.out, Nat.mul_one]) (fun b e j u hj => ck (HCC.out b e j u hj) (a1 _ _)) ⟨wr.heap.size, 0, none⟩ 1 1 [.int .i64 ((k : Int) + 1)] rfl rfl (newOne _ _ _) (oneInt _) (by omega) (by unfold maxLen; omega) (by omega) ?_; intro v5 w5 hown5 hg5)
                | fail)
              have hb5 : Below wr.heap.size wr w5 := (a1 wr _).grown hg5 (by simp) fun q e => by cases e
              have HB5 := Lib.hid hb5
              have HV5 : Hid (OWn w5 v5 (acc ++ [k + 1])) := Lib.hid (by
                have e1 : ints (nats acc) ++ [.int .i64 ((k : Int) + 1)] = ints (nats (acc ++ [k + 1])) := by simp [ints, nats]
                have e2 : la + 1 = (acc ++ [k + 1]).length := by rw [List.length_append, ← HLA.out]; rfl
                rw [e1, e2] at hown5
                exact owns_mono hown5 (Nat.zero_le _))
              have HC5 := Lib.hid (HIk.out v5 w5 HV5.out)
              obtain ⟨q5, qc5, rfl⟩ := owns_form hown5
              clear hown5 hg5 hb5 HV5
              refine HC5.out.mono ?_
              clear HC5
              rintro e w6 ⟨v6, rfl, ⟨vs6, p1, p2⟩, hb6⟩
              rw [← HNR.out] at p1
              obtain ⟨b6, c6, rfl, _⟩ := own_lit p1 hPk
              have HB6 : Hid (Below wr.heap.size wr w6) := Lib.hid (HB5.out.trans (hb6.mono HB5.out.size))
              have hO6 : w6.ownsRow W.heap.size 24 1 (.slice oa lo oc) lo vs := owns_below HO1.out HB6.out (Nat.le_refl _)
              have HO6 := Lib.hid hO6
              have HO26 : Hid (∀ (j : Nat) (u : Value) (l : List Nat), vs[j]? = some u → (shK f n acc k)[j]? = some l → OWn w6 u l) := Lib.hid fun j u l a b => (HO2.out j u l a b).below HB6.out
              have HP1 := Lib.hid p1
              have HP2 := Lib.hid p2
              have hv6 : vs6.length = nr := by have := p1.1; omega
              have hws : W.heap.size ≤ w6.heap.size := Nat.le_trans HB.out.size HB6.out.size
              clear p1 p2 hb6 hO6
              go_wp2_with (first | (at_builtin; refine wpList_append_own _ rfl _ _ 33 rfl W.heap.size 24 i4 (.slice none 0 0) 1 24 Try.underlying33 hi4 hy0 hy1 hy2 rfl (by decide) (.slice oa lo oc) lo vs rfl HO6.out ⟨b6, 0, none⟩ nr c6 vs6 rfl (by omega) (fun j u hj => by
                  rw [Addr.add_lit, Nat.zero_add, World.ownsRow.cellAt HP1.out j (by have := (List.getElem?_eq_some_iff.1 hj).1; omega), hj]) (own_oneCell HP1.out HNR.out.symm HP2.out) (by unfold maxLen; omega) (by omega) hws ?_; intro v9 w9 hown9 hg9 _) | fail)
              have HA9 : Hid (AllW w9 W.heap.size v9 (shK f n acc (k + 1))) := Lib.hid (by
                rw [HSK.out]
                exact AllW.cat HLO.out HNR.out HO6.out HO26.out HP1.out HP2.out hg9 hown9)
              have HB9 : Hid (Below W.heap.size W w9) := Lib.hid ((HB.out.trans (HB6.out.mono HB.out.size)).grown hg9 hws fun q e => (HO6.out.lt q e).1)
              obtain ⟨a9, c9, rfl⟩ := owns_form hown9
              clear hown9 hg9
              go_roundw
              case rel => exact ⟨k + 1, by omega, by go_num, HA9.out, HB9.out⟩
              case measure => simp [intOf]; omega
          · have hnm2 : (n : Int) ≤ (most : Int) := by omega
            have hnm3 : min (n : Int) (most : Int) = (n : Int) := by omega
            cases a with
            | none =>
              obtain ⟨rfl, rfl⟩ := HCN.out rfl
              go_wp2_with (first
                | (at_builtin; refine wpList_append_grows _ rfl _ _ 24 rfl 3 i0 (.int .i64 0) 1 8 Try.underlying24 hi0 hz0 hz1 hz2 rfl (by decide) none 0 0 (ints (nats acc)) rfl (fun _ => ⟨rfl, rfl⟩) (by rw [ints_length, nats_length, ← HLA.out]) (fun b e j u hj => ck (HCC.out b e j u hj) (a1 _ _)) ⟨wr.heap.size, 0, none⟩ 1 1 [.int .i64 ((k : Int) + 1)] rfl rfl (newOne _ _ _) (oneInt _) (by omega) (by unfold maxLen; omega) (by omega) ?_; intro v5 w5 hown5 hg5)
                | fail)
              have hb5 : Below wr.heap.size wr w5 := (a1 wr _).grown hg5 (by simp) fun q e => by cases e
              have HB5 := Lib.hid hb5
              have HV5 : Hid (OWn w5 v5 (acc ++ [k + 1])) := Lib.hid (by
                have e1 : ints (nats acc) ++ [.int .i64 ((k : Int) + 1)] = ints (nats (acc ++ [k + 1])) := by simp [ints, nats]
                have e2 : 0 + 1 = (acc ++ [k + 1]).length := by rw [List.length_append, ← HLA.out]; rfl
                rw [e1, e2] at hown5
                exact owns_mono hown5 (Nat.zero_le _))
              have HC5 := Lib.hid (HIk.out v5 w5 HV5.out)
              obtain ⟨q5, qc5, rfl⟩ := owns_form hown5
              clear hown5 hg5 hb5 HV5
              refine HC5.out.mono ?_
              clear HC5
              rintro e w6 ⟨v6, rfl, ⟨vs6, p1, p2⟩, hb6⟩
              rw [← HNR.out] at p1
              obtain ⟨b6, c6, rfl, _⟩ := own_lit p1 hPk
              have HB6 : Hid (Below wr.heap.size wr w6) := Lib.hid (HB5.out.trans (hb6.mono HB5.out.size))
              have hO6 : w6.ownsRow W.heap.size 24 1 (.slice oa lo oc) lo vs := owns_below HO1.out HB6.out (Nat.le_refl _)
              have HO6 := Lib.hid hO6
              have HO26 : Hid (∀ (j : Nat) (u : Value) (l : List Nat), vs[j]? = some u → (shK f n acc k)[j]? = some l → OWn w6 u l) := Lib.hid fun j u l a b => (HO2.out j u l a b).below HB6.out
              have HP1 := Lib.hid p1
              have HP2 := Lib.hid p2
              have hv6 : vs6.length = nr := by have := p1.1; omega
              have hws : W.heap.size ≤ w6.heap.size := Nat.le_trans HB.out.size HB6.out.size
              clear p1 p2 hb6 hO6
              go_wp2_with (first | (at_builtin; refine wpList_append_own _ rfl _ _ 33 rfl W.heap.size 24 i4 (.slice none 0 0) 1 24 Try.underlying33 hi4 hy0 hy1 hy2 rfl (by decide) (.slice oa lo oc) lo vs rfl HO6.out ⟨b6, 0, none⟩ nr c6 vs6 rfl (by omega) (fun j u hj => by
                  rw [Addr.add_lit, Nat.zero_add, World.ownsRow.cellAt HP1.out j (by have := (List.getElem?_eq_some_iff.1 hj).1; omega), hj]) (own_oneCell HP1.out HNR.out.symm HP2.out) (by unfold maxLen; omega) (by omega) hws ?_; intro v9 w9 hown9 hg9 _) | fail)
              have HA9 : Hid (AllW w9 W.heap.size v9 (shK f n acc (k + 1))) := Lib.hid (by
                rw [HSK.out]
                exact AllW.cat HLO.out HNR.out HO6.out HO26.out HP1.out HP2.out hg9 hown9)
              have HB9 : Hid (Below W.heap.size W w9) := Lib.hid ((HB.out.trans (HB6.out.mono HB.out.size)).grown hg9 hws fun q e => (HO6.out.lt q e).1)
              obtain ⟨a9, c9, rfl⟩ := owns_form hown9
              clear hown9 hg9
              go_roundw
              case rel => exact ⟨k + 1, by omega, by go_num, HA9.out, HB9.out⟩
              case measure => simp [intOf]; omega
            | some ab =>
              go_wp2_with (first
                | (at_builtin; refine wpList_append_grows _ rfl _ _ 24 rfl 3 i0 (.int .i64 0) 1 8 Try.underlying24 hi0 hz0 hz1 hz2 rfl (by decide) (some ab) la la (ints (nats acc)) rfl (fun e => by cases e) (by rw [ints_length, nats_length, ← HLA.out, Nat.mul_one]) (fun b e j u hj => ck (HCC.out b e j u hj) (a1 _ _)) ⟨wr.heap.size, 0, none⟩ 1 1 [.int .i64 ((k : Int) + 1)] rfl rfl (newOne _ _ _) (oneInt _) (by omega) (by unfold maxLen; omega) (by omega) ?_; intro v5 w5 hown5 hg5)
                | fail)
              have hb5 : Below wr.heap.size wr w5 := (a1 wr _).grown hg5 (by simp) fun q e => by cases e
              have HB5 := Lib.hid hb5
              have HV5 : Hid (OWn w5 v5 (acc ++ [k + 1])) := Lib.hid (by
                have e1 : ints (nats acc) ++ [.int .i64 ((k : Int) + 1)] = ints (nats (acc ++ [k + 1])) := by simp [ints, nats]
                have e2 : la + 1 = (acc ++ [k + 1]).length := by rw [List.length_append, ← HLA.out]; rfl
                rw [e1, e2] at hown5
                exact owns_mono hown5 (Nat.zero_le _))
              have HC5 := Lib.hid (HIk.out v5 w5 HV5.out)
              obtain ⟨q5, qc5, rfl⟩ := owns_form hown5
              clear hown5 hg5 hb5 HV5
              refine HC5.out.mono ?_
              clear HC5
              rintro e w6 ⟨v6, rfl, ⟨vs6, p1, p2⟩, hb6⟩
              rw [← HNR.out] at p1
              obtain ⟨b6, c6, rfl, _⟩ := own_lit p1 hPk
              have HB6 : Hid (Below wr.heap.size wr w6) := Lib.hid (HB5.out.trans (hb6.mono HB5.out.size))
              have hO6 : w6.ownsRow W.heap.size 24 1 (.slice oa lo oc) lo vs := owns_below HO1.out HB6.out (Nat.le_refl _)
              have HO6 := Lib.hid hO6
              have HO26 : Hid (∀ (j : Nat) (u : Value) (l : List Nat), vs[j]? = some u → (shK f n acc k)[j]? = some l → OWn w6 u l) := Lib.hid fun j u l a b => (HO2.out j u l a b).below HB6.out
              have HP1 := Lib.hid p1
              have HP2 := Lib.hid p2
              have hv6 : vs6.length = nr := by have := p1.1; omega
              have hws : W.heap.size ≤ w6.heap.size := Nat.le_trans HB.out.size HB6.out.size
              clear p1 p2 hb6 hO6
              go_wp2_with (first | (at_builtin; refine wpList_append_own _ rfl _ _ 33 rfl W.heap.size 24 i4 (.slice none 0 0) 1 24 Try.underlying33 hi4 hy0 hy1 hy2 rfl (by decide) (.slice oa lo oc) lo vs rfl HO6.out ⟨b6, 0, none⟩ nr c6 vs6 rfl (by omega) (fun j u hj => by
                  rw [Addr.add_lit, Nat.zero_add, World.ownsRow.cellAt HP1.out j (by have := (List.getElem?_eq_some_iff.1 hj).1; omega), hj]) (own_oneCell HP1.out HNR.out.symm HP2.out) (by unfold maxLen; omega) (by omega) hws ?_; intro v9 w9 hown9 hg9 _) | fail)
              have HA9 : Hid (AllW w9 W.heap.size v9 (shK f n acc (k + 1))) := Lib.hid (by
                rw [HSK.out]
                exact AllW.cat HLO.out HNR.out HO6.out HO26.out HP1.out HP2.out hg9 hown9)
              have HB9 : Hid (Below W.heap.size W w9) := Lib.hid ((HB.out.trans (HB6.out.mono HB.out.size)).grown hg9 hws fun q e => (HO6.out.lt q e).1)
              obtain ⟨a9, c9, rfl⟩ := owns_form hown9
              clear hown9 hg9
              go_roundw
              case rel => exact ⟨k + 1, by omega, by go_num, HA9.out, HB9.out⟩
              case measure => simp [intOf]; omega
        · have hkk : k = mn := by omega
          have HAE : Hid (AllW wr W.heap.size _ (shL (f + 1) n most acc)) := Lib.hid (by rw [HE.out, ← hkk]; exact hA)
          obtain ⟨oa, oc, rfl⟩ := hA.form
          have HB := Lib.hid hb
          have hgt : ¬ (k : Int) + 1 ≤ (mn : Int) := by omega
          clear hA hb hkk
          rcases Nat.lt_or_ge most n with hnm | hnm
          · have hnm2 : ¬ (n : Int) ≤ (most : Int) := by omega
            have hnm3 : ¬ (k : Int) + 1 ≤ (most : Int) := by omega
            go_wp2_with fail
            go_ret
            exact ⟨.slice oa (shK f n acc k).length oc, rfl, HAE.out, HB.out⟩
          · have hnm2 : (n : Int) ≤ (most : Int) := by omega
            have hnm3 : ¬ (k : Int) + 1 ≤ (n : Int) := by omega
            go_wp2_with fail
            go_ret
            exact ⟨.slice oa (shK f n acc k).length oc, rfl, HAE.out, HB.out⟩
set_option maxHeartbeats 400000 in
theorem Shapes_any (n : Nat) (h0 : 0 < n) (h8 : n ≤ 8) (hb : ((shL n n n []).all fun l => decide (l.length ≤ 1000) && l.all fun x => decide (x < 65536)) = true) (W : World) :
    Calls Try.prog 65 #[.int .i64 n] W fun e w' => ∃ a c, e = .returned (.slice a (shL n n n []).length c) ∧ NatRows w' (.slice a (shL n n n []).length c) (shL n n n []) ∧ Below W.heap.size W w' := by
  have HS := Lib.hid (shapes_any n n n [] (.slice none 0 0) W (Nat.le_refl _) h8 h8 (.inl h0) (by simpa using h8) (by simp) ⟨rfl, .inl ⟨rfl, rfl⟩⟩)
  have HLn := Lib.hid (shL_len n n n [] (Nat.le_refl _))
  have H2 : 2 ^ n ≤ 2 ^ 8 := Nat.pow_le_pow_right (by decide) h8
  have HBd := Lib.hid hb
  clear hb
  generalize shL n n n [] = L at *
  go_enter Try.func65, Try.ntmps65
  go_wp2_with fail
  refine HS.out.mono ?_
  rintro e w1 ⟨v', rfl, hA, hb⟩
  have HR : Hid (NatRows w1 v' L) := Lib.hid (hA.rows (by have := HLn.out; omega) fun l hl => by
    have h9 := List.all_eq_true.1 HBd.out l hl
    rw [Bool.and_eq_true, decide_eq_true_eq] at h9
    exact ⟨h9.1, fun x hx => by have := List.all_eq_true.1 h9.2 x hx; simpa using this⟩)
  obtain ⟨a, c, rfl⟩ := hA.form
  have HB := Lib.hid hb
  clear hA hb HBd
  go_wp2_with fail
  go_ret
  exact ⟨a, c, rfl, HR.out, HB.out⟩
end Go.Proofs.Ytlnbodpdgebflaa
