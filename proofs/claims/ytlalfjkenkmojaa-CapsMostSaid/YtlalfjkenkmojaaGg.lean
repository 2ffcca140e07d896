/- the reference's grown and Greatest -/
import Derived.Test.YtlalfjkenkmojaaBd
import Derived.Test.YtlalfjkenkmojaaUg
namespace Go.Proofs.Ytlalfjkenkmojaa
open Go.RowKit

/-- The first slice of n numbers that goes on from l with numbers of xs. -/
def gro (f : List Nat → Nat → Bool) (n : Nat) : List Nat → List Nat → Option (List Nat)
  | [], l => if l.length = n then some l else none
  | x :: xs, l => if l.length = n then some l else if f l x then (match gro f n xs (l ++ [x]) with | some r => some r | none => gro f n xs l) else gro f n xs l
theorem gro_full {f : List Nat → Nat → Bool} {n : Nat} {l : List Nat} (h : l.length = n) (xs : List Nat) : gro f n xs l = some l := by
  cases xs with
  | nil => rw [gro, if_pos h]
  | cons x xs => rw [gro, if_pos h]
theorem filter_le_of {p q : Nat → Bool} (h : ∀ y, p y = true → q y = true) (l : List Nat) : (l.filter p).length ≤ (l.filter q).length := by
  induction l with
  | nil => exact Nat.le_refl _
  | cons x l ih =>
    rw [List.filter_cons, List.filter_cons]
    cases hp : p x with
    | true => rw [h x hp]; simpa using ih
    | false =>
      cases q x with
      | true => simp; omega
      | false => simpa using ih
theorem gro_few {f : List Nat → Nat → Bool} (hm : Mono f) {n : Nat} (xs : List Nat) : ∀ {l r : List Nat}, gro f n xs l = some r → n ≤ l.length + (xs.filter (f l)).length := by
  induction xs with
  | nil =>
    intro l r h
    rw [gro] at h
    split at h
    · omega
    · cases h
  | cons x xs ih =>
    intro l r h
    rw [gro] at h
    split at h
    · omega
    · rw [List.filter_cons]
      split at h
      · rename_i hf
        rw [if_pos hf]
        cases hg : gro f n xs (l ++ [x]) with
        | some r' =>
          have h1 := ih hg
          have h2 := filter_le_of (p := f (l ++ [x])) (q := f l) (fun y hy => hm l x y hy) xs
          simp at h1 ⊢; omega
        | none =>
          rw [hg] at h
          have := ih h
          simp; omega
      · rename_i hf
        rw [if_neg hf]
        exact ih h
theorem gro_none {f : List Nat → Nat → Bool} (hm : Mono f) {n : Nat} {xs l : List Nat} (h : l.length + (xs.filter (f l)).length < n) : gro f n xs l = none := by
  cases hg : gro f n xs l with
  | none => rfl
  | some r => have := gro_few hm xs hg; omega
theorem gro_seek {f : List Nat → Nat → Bool} {n : Nat} (xs : List Nat) : ∀ (l best : List Nat), best.length < n → l.length ≤ n → (∀ s, List.Sublist s xs → Goes f l s → (l ++ s).length ≤ n) →
    match gro f n xs l with
    | some r => r.length = n ∧ seek f xs l (upd best l) = r
    | none => (seek f xs l (upd best l)).length < n := by
  have full : ∀ (xs l best : List Nat), best.length = n → (∀ s, List.Sublist s xs → Goes f l s → (l ++ s).length ≤ n) → seek f xs l best = best := by
    intro xs l best hb hs
    rcases seek_found f xs l best with h | ⟨s, _, h1, h2, _, h4⟩
    · exact h
    · have := hs s h1 h2; omega
  induction xs with
  | nil =>
    intro l best hb hl hs
    rw [gro]
    by_cases h : l.length = n
    · rw [if_pos h]
      exact ⟨h, by rw [seek]; exact if_pos (by omega)⟩
    · rw [if_neg h]
      show (seek f [] l (upd best l)).length < n
      rw [seek]
      unfold upd; split <;> omega
  | cons x xs ih =>
    intro l best hb hl hs
    by_cases h : l.length = n
    · rw [gro_full h]
      have hu : upd best l = l := if_pos (by omega)
      exact ⟨h, by rw [hu]; exact full _ l l h hs⟩
    · rw [gro, if_neg h, seek]
      have hB : (upd best l).length < n := by unfold upd; split <;> omega
      have hs2 : ∀ s, List.Sublist s xs → Goes f l s → (l ++ s).length ≤ n := fun s h1 h2 => hs s (h1.cons x) h2
      cases hf : f l x with
      | false =>
        simp only [Bool.false_eq_true, if_false]
        exact ih l best hb hl hs2
      | true =>
        simp only [if_true]
        have i1 := ih (l ++ [x]) (upd best l) hB (by simp; omega) (fun s h1 h2 => by
          have := hs (x :: s) (List.Sublist.cons_cons x h1) ⟨hf, h2⟩
          simpa using this)
        cases hg : gro f n xs (l ++ [x]) with
        | some r =>
          rw [hg] at i1
          exact ⟨i1.1, by rw [i1.2]; exact full xs l r i1.1 hs2⟩
        | none =>
          rw [hg] at i1
          have h1 : (l ++ [x]).length ≤ (seek f xs (l ++ [x]) (upd (upd best l) (l ++ [x]))).length := Nat.le_trans (upd_le _ _).2 (seek_len f xs _ _)
          have hu : upd (seek f xs (l ++ [x]) (upd (upd best l) (l ++ [x]))) l = seek f xs (l ++ [x]) (upd (upd best l) (l ++ [x])) := upd_few (by simp at h1; omega)
          have i2 := ih l (seek f xs (l ++ [x]) (upd (upd best l) (l ++ [x]))) i1 hl hs2
          rw [hu] at i2
          exact i2
theorem gro_great {d : Nat} (h1 : 1 ≤ d) (h3 : d ≤ 3) : gro (mayB d) (capM d) (List.range' 0 (3 ^ d)) [] = some (greatN d) := by
  have hl := greatN_len h1 h3
  have hp : 0 < capM d := by rcases (show d = 1 ∨ d = 2 ∨ d = 3 by omega) with rfl | rfl | rfl <;> decide
  have h := gro_seek (f := mayB d) (n := capM d) (List.range' 0 (3 ^ d)) [] [] hp (Nat.zero_le _) fun s hs hg => by
    have := long_most hs ((goes_nil s).1 hg)
    have e : (longL (mayB d) (List.range' 0 (3 ^ d))).length = capM d := hl
    simp only [List.nil_append]; omega
  have e : seek (mayB d) (List.range' 0 (3 ^ d)) [] (upd [] []) = greatN d := rfl
  cases hg : gro (mayB d) (capM d) (List.range' 0 (3 ^ d)) [] with
  | some r => rw [hg] at h; rw [← h.2, e]
  | none =>
    rw [hg] at h
    have h : (seek (mayB d) (List.range' 0 (3 ^ d)) [] (upd [] [])).length < capM d := h
    rw [e, hl] at h
    omega

/-- How many may be added, of those from a to before x. -/
def cntB (d : Nat) (l : List Nat) (a x : Nat) : Nat := ((List.range' a (x - a)).filter (mayB d l)).length
theorem cntB_zero (d : Nat) (l : List Nat) (a : Nat) : cntB d l a a = 0 := by unfold cntB; simp
theorem cntB_step {d : Nat} {l : List Nat} {a x : Nat} (h : a ≤ x) : cntB d l a (x + 1) = cntB d l a x + (if mayB d l x then 1 else 0) := by
  unfold cntB
  rw [show x + 1 - a = (x - a) + 1 by omega, List.range'_1_concat, List.filter_append, List.length_append, show a + (x - a) = x by omega]
  congr 1
  cases hq : mayB d l x <;> simp [hq]
theorem cntB_le (d : Nat) (l : List Nat) (a x : Nat) : cntB d l a x ≤ x - a := by
  unfold cntB
  exact Nat.le_trans (List.length_filter_le _ _) (by rw [List.length_range']; exact Nat.le_refl _)
/-- What is still to be tried from x on. -/
def groR (d n S : Nat) (l : List Nat) (x : Nat) : Option (List Nat) := gro (mayB d) n (List.range' x (S - x)) l
theorem groR_step {d n S x : Nat} {l : List Nat} (hx : x < S) (hl : l.length ≠ n) : groR d n S l x = if mayB d l x then (match groR d n S (l ++ [x]) (x + 1) with | some r => some r | none => groR d n S l (x + 1)) else groR d n S l (x + 1) := by
  unfold groR
  rw [show S - x = (S - (x + 1)) + 1 by omega, List.range'_succ, gro, if_neg hl]
theorem groR_end {d n S x : Nat} {l : List Nat} (hx : S ≤ x) (hl : l.length ≠ n) : groR d n S l x = none := by
  unfold groR
  rw [show S - x = 0 by omega, List.range'_zero, gro, if_neg hl]

set_option maxHeartbeats 4000000 in
set_option maxRecDepth 100000 in
theorem grown_any (d n S : Nat) (h1 : 1 ≤ d) (h4 : d ≤ 4) (hS : S = 3 ^ d) (hn : 1 ≤ n) (hn9 : n ≤ 20) (m : Nat) :
    ∀ (a : Nat) (l : List Nat) (ao : Option Addr) (cap : Nat) (w : World), l.length + m = n → a ≤ S → (∀ y ∈ l, y < S) → Nats w (.slice ao l.length cap) l →
      Calls Try.prog 75 #[.int .i64 d, .int .i64 n, .int .i64 a, .slice ao l.length cap] w (SPost (groR d n S l a) w) := by
  have hS81 : S ≤ 81 := by rw [hS]; exact Nat.pow_le_pow_right (by omega) h4
  induction m with
  | zero =>
    intro a l ao cap w hlk _ _ hN
    obtain ⟨ao', cap', he', _, _, hcx⟩ := hN.open
    simp only [Value.slice.injEq] at he'
    obtain ⟨rfl, _, rfl⟩ := he'
    obtain ⟨b, o, rfl, _⟩ := hcx 0 (by omega)
    have he : ((l.length : Int) == (n : Int)) = true := beq_iff_eq.2 (by omega)
    have HP : Hid (SPost (groR d n S l a) w (.returned (.slice (some ⟨b, o, none⟩) l.length cap)) w) := Lib.hid (by
      unfold groR
      rw [gro_full (by omega)]
      exact ⟨Below.refl _ _, b, o, _, _, rfl, hN⟩)
    clear hcx hN hlk hS
    go_enter Try.func75, Try.ntmps75
    go_wp2
    go_ret
    exact HP.out
  | succ m ih =>
    intro a l ao cap w hlk ha hlb hN
    obtain ⟨ao', cap', he', hc1, hc2, hcx⟩ := hN.open
    simp only [Value.slice.injEq] at he'
    obtain ⟨rfl, _, rfl⟩ := he'
    have he : ((l.length : Int) == (n : Int)) = false := beq_eq_false_iff_ne.2 (by omega)
    have HNil : Hid (ao = none → l.length = 0) := Lib.hid fun e => by
      refine Nat.eq_zero_of_not_pos fun hp => ?_
      obtain ⟨b, o, e', _⟩ := hcx 0 hp
      rw [e] at e'; cases e'
    have HCell : Hid (∀ b, ao = some b → ∀ j u, (ints (nats l))[j]? = some u → w.cell? (b.add j) = some u) := Lib.hid fun b eb j u hj => by
      have hlt : j < l.length := by have := (List.getElem?_eq_some_iff.1 hj).1; rwa [ints_length, nats_length] at this
      obtain ⟨b', o', he', hc⟩ := hcx j hlt
      rw [eb] at he'
      obtain rfl := Option.some.inj he'
      rw [Addr.add_lit, hc, ← hj]
      simp [ints, nats, hlt]
    obtain ⟨F, hF⟩ : ∃ F, F = groR d n S l a := ⟨_, rfl⟩
    rw [← hF]
    have HF := Lib.hid hF
    have HIH := Lib.hid ih
    have HLb := Lib.hid hlb
    have HLk := Lib.hid hlk
    have hln : l.length < n := by omega
    have HSz := Lib.hid (fun w => rSize_any (d : Int) w)
    rw [show sizeI (d : Int) = S by unfold sizeI; rw [if_pos (by omega), hS]; simp] at HSz
    have HFi := Lib.hid (fun x w' (hx : x < S) (hb : Below w.heap.size w w') => fits_any d x (.slice ao l.length cap) l w' h4 (fun y hy => by have := hlb y hy; omega) (by omega) (hN.below hb (Nat.le_refl _)))
    have HFm : Hid (∀ x, x < S → fitsB d l x = mayB d l x) := Lib.hid fun x hx => fits_may d l x (fun y hy => by rw [← hS]; exact hlb y hy) (by rw [← hS]; exact hx)
    have HPr : Hid (l.length + cntB d l a S < n → F = none) := Lib.hid fun h => by rw [hF]; exact gro_none (mayB_mono d) h
    obtain ⟨i0, hi, hz0, hz1, hz2⟩ := info_parts Try.info3
    have hnil := fun (w : World) (a : Option Addr) (n c n' c' : Nat) => run_neq_slice_nil_any (P := Try.prog) w 22 3 a n c n' c' Try.underlying22
    clear hF ih hcx hlb hlk hN hS
    go_enter Try.func75, Try.ntmps75
    go_wp2_with fail
    go_loopw [9, 10] (fun s i wr => ∃ x c : Nat, a ≤ x ∧ x ≤ S ∧ i = .int .i64 x ∧ s = .int .i64 c ∧ c = cntB d l a x ∧ c ≤ 81 ∧ Below w.heap.size w wr) (fun _ i _ => S - (intOf i).toNat)
    case atStart => exact ⟨a, 0, Nat.le_refl _, ha, rfl, rfl, (cntB_zero d l a).symm, by omega, Below.refl _ _⟩
    case round =>
      obtain ⟨x, c, hax, hxS, rfl, rfl, hc, hc81, hb⟩ := hrel
      have HC := Lib.hid hc
      have HB := Lib.hid hb
      clear hc hb
      by_cases hlt : x < S
      · have HFx := HFi.out x
        rw [HFm.out x hlt] at HFx
        have HFx := Lib.hid HFx
        have HSt := Lib.hid (cntB_step (d := d) (l := l) hax)
        have HLe := Lib.hid (cntB_le d l a (x + 1))
        generalize mayB d l x = q at *
        go_wp2_with fail
        refine (HSz.out _).mono ?_
        rintro e w' ⟨rfl, rfl⟩
        go_wp2_with fail
        refine (HFx.out _ hlt HB.out).mono ?_
        rintro e w1 ⟨rfl, hb1⟩
        have HB1 := Lib.hid (HB.out.trans (hb1.mono HB.out.size))
        clear hb1
        cases q with
        | true =>
          have HC1 : Hid (c + 1 = cntB d l a (x + 1) ∧ c + 1 ≤ 81) := Lib.hid (by have h := HSt.out; rw [if_pos rfl, ← HC.out] at h; exact ⟨h.symm, by have := HLe.out; omega⟩)
          clear HC HSt HLe
          go_wp2
          go_roundw
          case rel => exact ⟨x + 1, c + 1, by omega, by omega, by go_num, by go_num, HC1.out.1, HC1.out.2, HB1.out⟩
          case measure => simp [intOf]; omega
        | false =>
          have HC1 : Hid (c = cntB d l a (x + 1)) := Lib.hid (by have h := HSt.out; rw [if_neg (by decide), ← HC.out] at h; exact h.symm)
          clear HC HSt HLe
          go_wp2
          go_roundw
          case rel => exact ⟨x + 1, c, by omega, by omega, by go_num, rfl, HC1.out, hc81, HB1.out⟩
          case measure => simp [intOf]; omega
      · obtain rfl : x = S := by omega
        have HPr2 : Hid (l.length + c < n → F = none) := Lib.hid (by rw [HC.out]; exact HPr.out)
        clear HC HPr
        go_wp2_with fail
        refine (HSz.out _).mono ?_
        rintro e w' ⟨rfl, rfl⟩
        by_cases hfew : l.length + c < n
        · have HP : Hid (SPost F w (.returned (.slice none 0 0)) wr) := Lib.hid (by rw [HPr2.out hfew]; exact ⟨HB.out, rfl⟩)
          go_wp2
          go_ret
          exact HP.out
        · clear HPr2
          go_wp2_with fail
          go_loopw [11] (fun i wr => ∃ y : Nat, a ≤ y ∧ y ≤ x ∧ i = .int .i64 y ∧ F = groR d n x l y ∧ Below w.heap.size w wr) (fun i _ => x - (intOf i).toNat)
          case atStart => exact ⟨a, Nat.le_refl _, ha, rfl, HF.out, HB.out⟩
          case round =>
            clear HB HF
            obtain ⟨y, hay, hyx, rfl, hFy, hb⟩ := hrel
            have HFy := Lib.hid hFy
            have HB := Lib.hid hb
            clear hFy hb
            by_cases hlt2 : y < x
            · have HStep : Hid (F = if mayB d l y then (match groR d n x (l ++ [y]) (y + 1) with | some r => some r | none => groR d n x l (y + 1)) else groR d n x l (y + 1)) := Lib.hid (by rw [HFy.out]; exact groR_step hlt2 (by omega))
              have HFx := HFi.out y
              rw [HFm.out y hlt2] at HFx
              have HFx := Lib.hid HFx
              clear HFy
              generalize mayB d l y = q at *
              go_wp2_with fail
              refine (HSz.out _).mono ?_
              rintro e w' ⟨rfl, rfl⟩
              go_wp2_with fail
              refine (HFx.out _ hlt2 HB.out).mono ?_
              rintro e w1 ⟨rfl, hb1⟩
              have HB1 := Lib.hid (HB.out.trans (hb1.mono HB.out.size))
              clear hb1 HB
              cases q with
              | false =>
                have HR : Hid (F = groR d n x l (y + 1)) := Lib.hid (by have h := HStep.out; rw [if_neg (by decide)] at h; exact h)
                clear HStep
                go_wp2
                go_roundw
                case rel => exact ⟨y + 1, by omega, by omega, by go_num, HR.out, HB1.out⟩
                case measure => simp [intOf]; omega
              | true =>
                have HStep2 : Hid (F = match groR d n x (l ++ [y]) (y + 1) with | some r => some r | none => groR d n x l (y + 1)) := Lib.hid (by have h := HStep.out; rw [if_pos rfl] at h; exact h)
                clear HStep
                go_wp2_with (at_builtin; refine wpList_append_grows _ rfl _ _ 22 rfl 3 i0 (.int .i64 0) 1 8 Try.underlying22 hi hz0 hz1 hz2 rfl (by decide) _ _ _ (ints (nats l)) rfl (fun e => ⟨HNil.out e, HNil.out e⟩) (by rw [ints_length, nats_length, Nat.mul_one]) (fun b0 hb0 j u hu => alloc_cell' _ (ck (HCell.out b0 hb0 j u hu) HB1.out)) ⟨w1.heap.size, 0, none⟩ 1 1 [.int .i64 y] rfl rfl (newOne _ _ _) (oneInt _) (by omega) (by unfold maxLen; omega) (by omega) ?_)
                intro v3 w3 hown3 hgrow3
                have HO3 : Hid (w3.ownsRow w1.heap.size 3 1 v3 (l ++ [y]).length (ints (nats (l ++ [y])))) := Lib.hid (owns_mono (own_len hown3 (by simp) (by simp [ints, nats])) (by simp))
                obtain ⟨g3, c3, rfl, _, _⟩ := owns_some hown3
                have HB3 : Hid (Below w.heap.size w w3) := Lib.hid (HB1.out.trans ((((Below.refl w1.heap.size w1).alloc (Nat.le_refl _) _).grown hgrow3 (by simp) (by intro k hk; cases hk)).mono HB1.out.size))
                have HN3 : Hid (Nats w3 (.slice (some ⟨g3, 0, none⟩) (l ++ [y]).length c3) (l ++ [y])) := Lib.hid (by
                  have := Nats.of_owns HO3.out (by simp; omega) (fun z hz => by
                    rcases List.mem_append.1 hz with hz | hz
                    · have := HLb.out z hz; omega
                    · simp at hz; omega)
                  rw [show (l ++ [y]).length = l.length + 1 by simp]
                  exact this)
                have HCall := Lib.hid (HIH.out (y + 1) (l ++ [y]) (some ⟨g3, 0, none⟩) c3 w3 (by have := HLk.out; simp; omega) (by omega) (fun z hz => by
                    rcases List.mem_append.1 hz with hz | hz
                    · exact HLb.out z hz
                    · simp at hz; omega) HN3.out)
                rw [show (l ++ [y]).length = l.length + 1 by simp, show ((y + 1 : Nat) : Int) = (y:Int) + 1 by omega] at HCall
                clear hown3 hgrow3 HO3 HN3 HB1
                generalize groR d n x (l ++ [y]) (y + 1) = R at *
                go_wp2_with fail
                refine HCall.out.mono ?_
                intro e w4 hp
                obtain ⟨hb4, hm⟩ := hp
                have HB4 := Lib.hid (HB3.out.trans (hb4.mono HB3.out.size))
                clear hb4 HB3
                cases R with
                | some r =>
                  obtain ⟨b5, o5, n5, c5, rfl, hn5⟩ := hm
                  have HP : Hid (SPost F w (.returned (.slice (some ⟨b5, o5, none⟩) n5 c5)) w4) := Lib.hid (by rw [HStep2.out]; exact ⟨HB4.out, b5, o5, n5, c5, rfl, hn5⟩)
                  clear hn5
                  go_wp2
                  go_ret
                  exact HP.out
                | none =>
                  obtain rfl : e = .returned (.slice none 0 0) := hm
                  have HR : Hid (F = groR d n x l (y + 1)) := Lib.hid HStep2.out
                  clear HStep2
                  go_wp2
                  go_roundw
                  case rel => exact ⟨y + 1, by omega, by omega, by go_num, HR.out, HB4.out⟩
                  case measure => simp [intOf]; omega
            · obtain rfl : y = x := by omega
              have HP : Hid (SPost F w (.returned (.slice none 0 0)) wr) := Lib.hid (by rw [HFy.out, groR_end (Nat.le_refl _) (by omega)]; exact ⟨HB.out, rfl⟩)
              go_wp2_with fail
              refine (HSz.out _).mono ?_
              rintro e w' ⟨rfl, rfl⟩
              go_wp2
              go_ret
              exact HP.out
end Go.Proofs.Ytlalfjkenkmojaa
