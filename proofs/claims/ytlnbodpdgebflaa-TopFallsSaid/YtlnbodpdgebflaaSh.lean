/- the reference: Short -/
import Derived.Test.YtlnbodpdgebflaaIn
import Derived.Test.YtlnbodpdgebflaaLv
import Derived.Test.YtlnbodpdgebflaaEh
namespace Go.Proofs.Ytlnbodpdgebflaa
open Go.RowKit

theorem insAll_mem : ∀ (k : Nat) (ws : List (List Nat)), ws.length = k → ∀ x, x ∈ insAll ws ↔ x ∈ ws := by
  intro k
  induction k with
  | zero => intro ws h x; rw [List.eq_nil_of_length_eq_zero h]; exact Iff.rfl
  | succ k ih =>
    intro ws h x
    rcases List.eq_nil_or_concat ws with rfl | ⟨t, w, rfl⟩
    · simp at h
    rw [List.concat_eq_append] at *
    rw [insAll_snoc, insK_mem, ih t (by simpa using h) x]
    simp [or_comm]
theorem insK_len (l : List (List Nat)) (w : List Nat) : (insK l w).length = l.length + 1 := by
  have := atK_le l w
  unfold insK; simp; omega
theorem insAll_len : ∀ (k : Nat) (ws : List (List Nat)), ws.length = k → (insAll ws).length = k := by
  intro k
  induction k with
  | zero => intro ws h; rw [List.eq_nil_of_length_eq_zero h]; rfl
  | succ k ih =>
    intro ws h
    rcases List.eq_nil_or_concat ws with rfl | ⟨t, w, rfl⟩
    · simp at h
    rw [List.concat_eq_append] at *
    rw [insAll_snoc, insK_len, ih t (by simpa using h)]
/-- The words by last letters, i of the block of letter s. -/
def lsP (g n x s i : Nat) : List (List Nat) := lsK g n x s ++ (lsB g n x s).take i
theorem lsP_zero (g n x s : Nat) : lsP g n x s 0 = lsK g n x s := by simp [lsP]
theorem lsP_succ (g n x s i : Nat) (h : i < (lsB g n x s).length) : lsP g n x s (i + 1) = lsP g n x s i ++ [(lsB g n x s).getD i []] := by
  unfold lsP
  rw [List.take_succ_eq_append_getElem h, List.append_assoc]
  simp [h]
theorem lsP_full (g n x s : Nat) : lsP g n x s (lsB g n x s).length = lsK g n x (s + 1) := by
  rw [lsK_succ, lsP, List.take_length]
theorem lsB_len {g n x s : Nat} (hg : g < 17) : (lsB g n x s).length ≤ 4 ^ n := by
  unfold lsB
  split
  · simp
  · rw [List.length_map]; exact shP_le hg n _
theorem lsK_len {g n x : Nat} (hg : g < 17) : ∀ k, (lsK g n x k).length ≤ k * 4 ^ n
  | 0 => by simp [lsK]
  | k + 1 => by
    rw [lsK_succ, List.length_append, Nat.succ_mul]
    have := lsK_len (n := n) (x := x) hg k
    have := lsB_len (g := g) (n := n) (x := x) (s := k) hg
    omega
theorem lsP_len {g n x s : Nat} (hg : g < 17) (hs : s < 4) (hn : n ≤ 11) (i : Nat) : (lsP g n x s i).length ≤ 16777216 := by
  have h1 := lsK_len (n := n) (x := x) hg s
  have h2 := lsB_len (g := g) (n := n) (x := x) (s := s) hg
  have h3 : 4 ^ n ≤ 4 ^ 11 := Nat.pow_le_pow_right (by decide) hn
  have h4 : 4 ^ 11 = 4194304 := by decide
  have h5 : s * 4 ^ n ≤ 3 * 4 ^ n := Nat.mul_le_mul_right _ (by omega)
  unfold lsP
  rw [List.length_append, List.length_take]
  omega
theorem lsP_word {g n x s : Nat} (hg : g < 17) (hx : x < nE g) (hs : s < kM g) (hn : ln g x ≤ n + 1) (i : Nat) : ∀ a ∈ insAll (lsP g n x s i), a.length = ln g x := by
  intro a ha
  rw [insAll_mem _ _ rfl] at ha
  rcases List.mem_append.1 ha with h | h
  · unfold lsK at h
    obtain ⟨t, ht, h⟩ := List.mem_flatMap.1 h
    have ht' := List.mem_range.1 ht
    exact ((lsB_mem hg hx (by omega) hn a).1 h).elim fun _ q => q.2.2.1
  · exact ((lsB_mem hg hx hs hn a).1 (List.mem_of_mem_take h)).elim fun _ q => q.2.2.1
/-- Words in a row of one's own. -/
def OwnWords (W : World) (B : Nat) (v : Value) (L : List (List Nat)) : Prop := ∃ vs, W.ownsRow B 24 1 v L.length vs ∧ ∀ (j : Nat) (u : Value) (l : List Nat), vs[j]? = some u → L[j]? = some l → Nats W u l
theorem OwnWords.below {W W' : World} {B : Nat} {v : Value} {L : List (List Nat)} (h : OwnWords W B v L) (hb : Below W.heap.size W W') : OwnWords W' B v L := by
  obtain ⟨vs, h1, h2⟩ := h
  exact ⟨vs, owns_below h1 hb (Nat.le_refl _), fun j u l a b => Ints.below (h2 j u l a b) hb (Nat.le_refl _)⟩
theorem OwnWords.mono {W : World} {B C : Nat} {v : Value} {L : List (List Nat)} (h : OwnWords W B v L) (hC : C ≤ B) : OwnWords W C v L := by
  obtain ⟨vs, h1, h2⟩ := h
  exact ⟨vs, owns_mono h1 hC, h2⟩
theorem OwnWords.nil (W : World) (B : Nat) : OwnWords W B (.slice none 0 0) [] := ⟨[], World.ownsRow_nil _ _ _ _, fun j u l h => by simp at h⟩
theorem OwnWords.form {W : World} {B : Nat} {v : Value} {L : List (List Nat)} (h : OwnWords W B v L) : ∃ a c, v = .slice a L.length c := by
  obtain ⟨vs, h1, _⟩ := h
  exact owns_form h1
theorem OwnWords.rows {W : World} {B : Nat} {v : Value} {L : List (List Nat)} (h : OwnWords W B v L) (hn : L.length ≤ 17592186044416) : NatRows W v L := by
  obtain ⟨vs, h1, h2⟩ := h
  exact natRows_own h1 rfl hn h2
theorem ins_get {α β : Type} {R : α → β → Prop} {vs : List α} {L : List β} {u : α} {x : β} (hl : vs.length = L.length) (h : ∀ (j : Nat) (y : α) (l : β), vs[j]? = some y → L[j]? = some l → R y l) (hu : R u x) (a : Nat) :
    ∀ (j : Nat) (y : α) (l : β), (vs.take a ++ [u] ++ vs.drop a)[j]? = some y → (L.take a ++ [x] ++ L.drop a)[j]? = some l → R y l := by
  have ht : (vs.take a).length = (L.take a).length := by simp [hl]
  intro j y l h1 h2
  rw [List.append_assoc] at h1 h2
  rcases Nat.lt_or_ge j (vs.take a).length with hj | hj
  · rw [List.getElem?_append_left hj] at h1
    rw [List.getElem?_append_left (by omega)] at h2
    rw [List.getElem?_take_of_lt (by simp at hj; omega)] at h1 h2
    exact h j y l h1 h2
  · rw [List.getElem?_append_right hj] at h1
    rw [List.getElem?_append_right (by omega), ← ht] at h2
    generalize j - (vs.take a).length = i at h1 h2
    cases i with
    | zero => simp at h1 h2; subst h1 h2; exact hu
    | succ i =>
      simp only [List.singleton_append, List.getElem?_cons_succ, List.getElem?_drop] at h1 h2
      exact h (a + i) y l h1 h2
theorem insertW_any (B : Nat) (v u : Value) (L : List (List Nat)) (x : List Nat) (w : World) (h : OwnWords w B v L) (hu : Nats w u x) (hl : ∀ l ∈ L, l.length = x.length) (hn : L.length ≤ 16777216) :
    Calls Try.prog 78 #[v, u] w fun e w' => ∃ v', e = .returned v' ∧ OwnWords w' w.heap.size v' (insK L x) ∧ Below w.heap.size w w' := by
  obtain ⟨vs, h1, h2⟩ := h
  have hvl : vs.length = L.length := by have := h1.1; omega
  refine (insert_any B v u vs L x w h1 h2 hu hl hn).mono fun e w' hh => ?_
  obtain ⟨v', rfl, ho, hb⟩ := hh
  refine ⟨v', rfl, ⟨_, ?_, ins_get hvl (fun j y l a b => Ints.below (h2 j y l a b) hb (Nat.le_refl _)) (Ints.below hu hb (Nat.le_refl _)) (atK L x)⟩, hb⟩
  have e : (insK L x).length = (vs.take (atK L x) ++ [u] ++ vs.drop (atK L x)).length := by unfold insK; simp [hvl]
  rw [e]; exact ho

set_option maxRecDepth 20000 in
set_option maxHeartbeats 4000000 in
theorem RShort_any (g b0 c0 b1 c1 b2 c2 : Nat) (hg : g < 17) : ∀ (n x : Nat) (w : World), ln g x = n → RP w g b0 b1 b2 → x < nE g →
    Calls Try.prog 31 #[rV g b0 c0 b1 c1 b2 c2, .int .i64 x] w fun e w' => ∃ v, e = .returned v ∧ OwnWords w' w.heap.size v (shP g n x) ∧ Below w.heap.size w w' := by
  intro n
  induction n with
  | zero =>
    intro x w hn h hx
    have h0 : x = 0 := Classical.byContradiction fun e => by have := ln_pos hg hx e; omega
    subst h0
    unfold rV
    have HW : Hid (OwnWords (((w.alloc (.cells #[.slice (some ⟨b0, 0, none⟩) (nE g) c0, .slice (some ⟨b1, 0, none⟩) (nE g) c1, .slice (some ⟨b2, 0, none⟩) (nE g) c2] 39)).alloc (.cells #[] 3)).alloc (.cells #[.slice (some ⟨w.heap.size + 1, 0, none⟩) 0 0] 24)) w.heap.size (.slice (some ⟨w.heap.size + 1 + 1, 0, none⟩) 1 1) (shP g 0 0)) := Lib.hid (by
      have h1 := World.ownsRow_lit (base := w.heap.size) (e := 24) (size := 1) ((w.alloc (.cells #[.slice (some ⟨b0, 0, none⟩) (nE g) c0, .slice (some ⟨b1, 0, none⟩) (nE g) c1, .slice (some ⟨b2, 0, none⟩) (nE g) c2] 39)).alloc (.cells #[] 3)) #[.slice (some ⟨w.heap.size + 1, 0, none⟩) 0 0] 1 (by simp; omega) (by unfold maxLen; omega) rfl
      rw [show ((w.alloc (.cells #[.slice (some ⟨b0, 0, none⟩) (nE g) c0, .slice (some ⟨b1, 0, none⟩) (nE g) c1, .slice (some ⟨b2, 0, none⟩) (nE g) c2] 39)).alloc (.cells #[] 3)).heap.size = w.heap.size + 1 + 1 by simp] at h1
      refine ⟨_, h1, fun j u l a b => ?_⟩
      match j, a, b with
      | 0, a, b =>
        simp [shP] at a b
        subst a b
        exact ⟨⟨_, 0, rfl, Nat.le_refl _, Nat.zero_le _, Nat.zero_le _, .inl rfl⟩, by intro y hy; simp [nats] at hy⟩
      | j + 1, a, b => simp at a)
    have HB : Hid (Below w.heap.size w (((w.alloc (.cells #[.slice (some ⟨b0, 0, none⟩) (nE g) c0, .slice (some ⟨b1, 0, none⟩) (nE g) c1, .slice (some ⟨b2, 0, none⟩) (nE g) c2] 39)).alloc (.cells #[] 3)).alloc (.cells #[.slice (some ⟨w.heap.size + 1, 0, none⟩) 0 0] 24))) := Lib.hid (a3 _ _ _ _)
    clear h
    go_enter Try.func31, Try.ntmps31
    go_wp2_with fail
    go_ret
    exact ⟨_, rfl, HW.out, HB.out⟩
  | succ n ih =>
    intro x w hn h hx
    have h0 : x ≠ 0 := fun e => by subst e; rw [ln_zero hg] at hn; omega
    have h0I : ((x : Int) == 0) = false := beq_eq_false_iff_ne.2 (by omega)
    have hl12 := (tx hg hx).2.1
    have hk4 := (tg hg).2.2.2.1
    have hE := tE hg
    have HR := Lib.hid (h.box c0 c1 c2)
    obtain ⟨rq, ro, rc, r1, r4⟩ := HR.out.rp.row hg hx
    have HR4 := Lib.hid r4
    have hrc : kM g ≤ rc := by
      obtain ⟨a, c, q1, q2⟩ := HR.out.rp.p2 x hx
      obtain ⟨_, _, e, q3, _, _⟩ := Nats.open q2
      cases e
      rw [rw_length] at q3 q1
      rw [r1] at q1
      cases q1
      exact q3
    have HLen := Lib.hid (fun y W h hy => Len_any g b0 c0 b1 c1 b2 c2 y hg W h hy)
    have HIh := Lib.hid ih
    have HIn := Lib.hid (fun B v u L x w h hu hl hn => insertW_any B v u L x w h hu hl hn)
    have HAll := Lib.hid (lsK_all hg hx h0 (n := n) (by omega))
    have t2 := HR.out.at.2.2
    obtain ⟨i0, hi, hz0, hz1, hz2⟩ := info_parts Try.info3
    clear h r4 ih h0
    unfold rV at HLen HIh ⊢
    go_enter Try.func31, Try.ntmps31
    go_wp2_with fail
    clear t2 r1
    have HBb : Hid (Below w.heap.size w (w.alloc (.cells #[.slice (some ⟨b0, 0, none⟩) (nE g) c0, .slice (some ⟨b1, 0, none⟩) (nE g) c1, .slice (some ⟨b2, 0, none⟩) (nE g) c2] 39))) := Lib.hid (a1 _ _)
    go_loopw [20, 5] (fun s v wr => ∃ k : Nat, k ≤ kM g ∧ s = .int .i64 k ∧ OwnWords wr w.heap.size v (insAll (lsK g n x k)) ∧ RB wr w.heap.size g b0 c0 b1 c1 b2 c2 ∧ Below w.heap.size w wr ∧ (∀ s, s < kM g → wr.cell? ⟨rq, ro + s, none⟩ = some (.int .i64 (rt g x s : Nat)))) (fun s _ _ => kM g - (intOf s).toNat)
    case atStart => exact ⟨0, Nat.zero_le _, rfl, OwnWords.nil _ _, HR.out, HBb.out, HR4.out⟩
    case round =>
      clear HR HR4 HBb
      obtain ⟨k, hk, rfl, hO, hR, hb, hr4⟩ := hrel
      have HO := Lib.hid hO
      have HR := Lib.hid hR
      have HB := Lib.hid hb
      have HR4 := Lib.hid hr4
      obtain ⟨oa, oc, rfl⟩ := hO.form
      clear hO hR hb hr4
      generalize hol : (insAll (lsK g n x k)).length = ol at *
      have HOL := Lib.hid hol
      clear hol
      by_cases hl : k < kM g
      · have r4 := HR4.out k hl
        have hr2 := (tb hg hx hl).2.1
        have hd := (len_one hg hx hl).2.1
        have hln2 := (tx hg hr2).2.1
        have t0 := HR.out.at.1
        have t1 := HR.out.at.2.1
        have t2 := HR.out.at.2.2
        have HL1 := Lib.hid (fun W h => HLen.out (rt g x k) W h hr2)
        have HL2 := Lib.hid (fun W h => HLen.out x W h hx)
        have HKS : Hid (∀ W, Below wr.heap.size wr W → (Below wr.heap.size wr W ∧ W.cell? ⟨w.heap.size, 0, none⟩ = some (.slice (some ⟨b0, 0, none⟩) (nE g) c0) ∧ W.cell? ⟨w.heap.size, 1, none⟩ = some (.slice (some ⟨b1, 0, none⟩) (nE g) c1) ∧ W.cell? ⟨w.heap.size, 2, none⟩ = some (.slice (some ⟨b2, 0, none⟩) (nE g) c2))) :=
          Lib.hid (fun W hb => ⟨hb, ck t0 hb, ck t1 hb, ck t2 hb⟩)
        have HSx : Hid (lsK g n x (k + 1) = lsP g n x k (lsB g n x k).length) := Lib.hid (lsP_full g n x k).symm
        have HSn : Hid (ln g x < ln g (rt g x k) → lsK g n x (k + 1) = lsK g n x k) := Lib.hid (fun q => by rw [lsK_succ]; unfold lsB; rw [if_pos q, List.append_nil])
        have HSy : Hid (¬ ln g x < ln g (rt g x k) → lsB g n x k = (shP g n (rt g x k)).map (· ++ [k])) := Lib.hid (fun q => by unfold lsB; rw [if_neg q])
        have HWo := Lib.hid (fun i => lsP_word hg hx hl (n := n) (by omega) i)
        have HPl := Lib.hid (fun i => lsP_len (g := g) (n := n) (x := x) (s := k) hg (by omega) (by omega) i)
        have HPs := Lib.hid (fun i h => lsP_succ g n x k i h)
        have HPz := Lib.hid (lsP_zero g n x k)
        clear t0 t1 t2
        generalize hy : rt g x k = y at *
        have HY := Lib.hid hy
        clear hy
        obtain ⟨p, hp⟩ : ∃ p, p = ln g y := ⟨_, rfl⟩
        obtain ⟨q, hq⟩ : ∃ q, q = ln g x := ⟨_, rfl⟩
        rw [← hp] at HL1 HSn HSy hd hln2
        rw [← hq] at HL2 HSn HSy hd hn hl12 HWo
        have HPe := Lib.hid hp
        have HQe := Lib.hid hq
        clear hp hq
        go_wp2_with fail
        go_region_held3 (fun W => Below wr.heap.size wr W ∧ W.cell? ⟨w.heap.size, 0, none⟩ = some (.slice (some ⟨b0, 0, none⟩) (nE g) c0) ∧ W.cell? ⟨w.heap.size, 1, none⟩ = some (.slice (some ⟨b1, 0, none⟩) (nE g) c1) ∧ W.cell? ⟨w.heap.size, 2, none⟩ = some (.slice (some ⟨b2, 0, none⟩) (nE g) c2))
          (first | assumption | exact HKS.out _ (below_drew (Below.refl _ _)) | exact HKS.out _ ((‹Below wr.heap.size wr _ ∧ _›).1.trans (hb.mono (‹Below wr.heap.size wr _ ∧ _›).1.size)))
          (first
            | (go_at_call 29; with_reducible refine (HL1.out _ (HR.out.below (‹Below wr.heap.size wr _ ∧ _›).1).rp).mono ?_; rintro e wv ⟨rfl, hb⟩)
            | (go_at_call 29; with_reducible refine (HL2.out _ (HR.out.below (‹Below wr.heap.size wr _ ∧ _›).1).rp).mono ?_; rintro e wv ⟨rfl, hb⟩))
        rename_i hHz
        have HBw : Hid (Below wr.heap.size wr wv) := Lib.hid hHz.1
        have HOv := Lib.hid (HO.out.below HBw.out)
        have HRv := Lib.hid (HR.out.below HBw.out)
        have HBv := Lib.hid (HB.out.trans (HBw.out.mono HB.out.size))
        have HR4v : Hid (∀ s, s < kM g → wv.cell? ⟨rq, ro + s, none⟩ = some (.int .i64 (rt g x s : Nat))) := Lib.hid (fun s hs => ck (HR4.out s hs) HBw.out)
        clear hHz hb HKS HL1 HL2 HO HR HB HR4 r4
        by_cases hpq : q < p
        · have HNx : Hid (OwnWords wv w.heap.size (.slice oa ol oc) (insAll (lsK g n x (k + 1)))) := Lib.hid (by rw [HSn.out hpq]; exact HOv.out)
          go_wp2_with fail
          go_roundw
          case rel => exact ⟨k + 1, by omega, by go_num, HNx.out, HRv.out, HBv.out, HR4v.out⟩
          case measure => simp [intOf]; omega
        · have hpn : p = n := by omega
          have hyn : ln g y = n := by rw [← HPe.out]; exact hpn
          have HLs := Lib.hid (HSy.out hpq)
          have HC := Lib.hid (HIh.out y wv hyn HRv.out.rp hr2)
          have hSl : (shP g n y).length ≤ 16777216 := by rw [← hyn]; exact shP_len hg hr2
          have t0 := HRv.out.at.1
          have t1 := HRv.out.at.2.1
          have t2 := HRv.out.at.2.2
          have HWd : Hid (∀ l ∈ shP g n y, Let g l ∧ l.length = n) := Lib.hid (fun l hl => by
            have h9 := (shP_mem hg n y hr2 (by omega) l).1 hl
            exact ⟨h9.1, by rw [h9.2.1]; exact hyn⟩)
          clear hyn HSn HSy hpn
          go_wp2_with fail
          refine HC.out.mono ?_
          rintro e wb ⟨v2, rfl, hS, hbb⟩
          have HBb : Hid (Below wv.heap.size wv wb) := Lib.hid hbb
          have HOb := Lib.hid (HOv.out.below hbb)
          have HRb := Lib.hid (HRv.out.below hbb)
          have HBw2 := Lib.hid (HBv.out.trans (hbb.mono HBv.out.size))
          have HR4b : Hid (∀ s, s < kM g → wb.cell? ⟨rq, ro + s, none⟩ = some (.int .i64 (rt g x s : Nat))) := Lib.hid (fun s hs => ck (HR4v.out s hs) hbb)
          have HSr := Lib.hid (hS.rows (by omega))
          obtain ⟨sa, sc, rfl⟩ := hS.form
          obtain ⟨_, _, e, hsc, _, hsx⟩ := SlOf.open HSr.out
          simp only [Value.slice.injEq] at e
          obtain ⟨rfl, -, rfl⟩ := e
          have HSX := Lib.hid hsx
          obtain ⟨sl, hsl⟩ : ∃ sl, sl = (shP g n y).length := ⟨_, rfl⟩
          rw [← hsl] at hSl hsc ⊢
          have HSL := Lib.hid hsl
          have HLsl : Hid ((lsB g n x k).length = sl) := Lib.hid (by rw [HLs.out, List.length_map, hsl])
          have HZ0 : Hid (OwnWords wb w.heap.size (.slice oa ol oc) (insAll (lsP g n x k 0))) := Lib.hid (by rw [HPz.out]; exact HOb.out)
          clear hbb hS hsx hsl HSr t0 t1 t2 HC HOv HRv HBv HR4v HOb HPz HOL
          go_wp2_with fail
          go_loopw [36, 5] (fun i v wi => ∃ j : Nat, j ≤ sl ∧ i = .int .i64 j ∧ OwnWords wi w.heap.size v (insAll (lsP g n x k j)) ∧ Below wb.heap.size wb wi) (fun i _ _ => sl - (intOf i).toNat)
          case atStart => exact ⟨0, Nat.zero_le _, rfl, HZ0.out, Below.refl _ _⟩
          case round =>
            rename World => wi
            clear HZ0
            obtain ⟨j, hj, rfl, hOi, hbi⟩ := hrel
            obtain ⟨oa2, oc2, rfl⟩ := hOi.form
            have HOi := Lib.hid hOi
            have HBi := Lib.hid hbi
            clear hOi hbi
            generalize hol2 : (insAll (lsP g n x k j)).length = ol2 at *
            have HOL2 := Lib.hid hol2
            clear hol2
            by_cases hjl : j < sl
            · obtain ⟨l, hkl⟩ : ∃ l, (shP g n y)[j]? = some l := ⟨(shP g n y)[j]'(by rw [← HSL.out]; exact hjl), by simp⟩
              obtain ⟨b, o, u, rfl, hck, hu⟩ := HSX.out j l hkl
              have hcki := ck hck HBi.out
              have hui : Nats wi u l := Ints.below hu HBi.out (Nat.le_refl _)
              obtain ⟨hlt1, hln1⟩ := HWd.out l (List.mem_of_getElem? hkl)
              obtain ⟨ua, uc, rfl, huc, _, _⟩ := Nats.open hui
              obtain ⟨_, hno, hce⟩ := Nats.cells hui
              have HCe := Lib.hid hce
              have hnone : Hid (ua = none → l.length = 0 ∧ l.length = 0) := Lib.hid (fun e => by rw [hno e]; exact ⟨rfl, rfl⟩)
              have HLn : Hid ((ints (nats l)).length = l.length * 1) := Lib.hid (by rw [ints_length, nats_length, Nat.mul_one])
              have HNx : Hid (lsP g n x k (j + 1) = lsP g n x k j ++ [l ++ [k]]) := Lib.hid (by
                rw [HPs.out j (by rw [HLsl.out]; exact hjl), HLs.out]
                simp [List.getD, hkl])
              have HLk : Hid ((l ++ [k]).length = n + 1) := Lib.hid (by simp [hln1])
              have HLb : Hid (∀ z ∈ l ++ [k], z < 65536) := Lib.hid (fun z hz => by
                rcases List.mem_append.1 hz with hz | hz
                · have := hlt1 z hz; omega
                · rw [List.mem_singleton.1 hz]; omega)
              have h1 : (0:Int) ≤ (l.length:Int) := by omega
              have h2 : (l.length:Int) ≤ (uc:Int) := by omega
              have hll : l.length ≤ 12 := by omega
              have HLL := Lib.hid hln1
              clear hck hu hui hno hce hkl hlt1 hln1
              generalize l.length = ll at *
              go_wp2_with (first | (at_builtin; refine wpList_append_grows _ rfl _ _ 24 rfl 3 i0 (.int .i64 0) 1 8 Try.underlying24 hi hz0 hz1 hz2 rfl (by decide) _ _ _ (ints (nats l)) rfl hnone.out HLn.out (fun b0 hb0 j u hu => alloc_cell' _ (HCe.out b0 hb0 j u hu)) ⟨wi.heap.size, 0, none⟩ 1 1 [.int .i64 (k : Nat)] rfl rfl (newOne _ _ _) (oneInt _) (by omega) (by unfold maxLen; omega) (by omega) ?_; intro v9 w9 hown9 hg9) | fail)
              have HNu : Hid (Nats w9 v9 (l ++ [k])) := Lib.hid (Ints.of_owns (n := ll + 1) (by rw [show ints (nats (l ++ [k])) = ints (nats l) ++ [.int .i64 (k : Nat)] by simp [ints, nats]]; exact hown9) (by omega) (nats_I64 HLb.out))
              have HB9 : Hid (Below wb.heap.size wb w9) := Lib.hid ((HBi.out.alloc HBi.out.size _).grown hg9 (by have := HBi.out.size; simp; omega) fun k e => by cases e)
              have HB9i : Hid (Below wi.heap.size wi w9) := Lib.hid ((a1 wi _).grown hg9 (by simp) fun k e => by cases e)
              have HO9 := Lib.hid (HOi.out.below HB9i.out)
              obtain ⟨a9, c9, rfl⟩ := owns_form hown9
              have HCi := Lib.hid (HIn.out w.heap.size _ _ (insAll (lsP g n x k j)) (l ++ [k]) w9 HO9.out HNu.out (fun a ha => by rw [HLk.out, HWo.out j a ha, hn]) (by rw [insAll_len _ _ rfl]; exact HPl.out j))
              have HNi : Hid (insAll (lsP g n x k (j + 1)) = insK (insAll (lsP g n x k j)) (l ++ [k])) := Lib.hid (by rw [HNx.out, insAll_snoc])
              have hW9 : w.heap.size ≤ w9.heap.size := Nat.le_trans HBw2.out.size HB9.out.size
              clear hown9 hg9 hnone HLn
              go_wp2_with fail
              refine HCi.out.mono ?_
              rintro e w8 ⟨v8, rfl, ho8, hb8⟩
              have HO8 : Hid (OwnWords w8 w.heap.size v8 (insAll (lsP g n x k (j + 1)))) := Lib.hid (by rw [HNi.out]; exact ho8.mono hW9)
              have HB8 := Lib.hid (HB9.out.trans (hb8.mono HB9.out.size))
              obtain ⟨a8, c8, rfl⟩ := ho8.form
              clear ho8 hb8
              go_wp2_with fail
              go_roundw
              case rel => exact ⟨j + 1, by omega, by go_num, HO8.out, HB8.out⟩
              case measure => simp [intOf]; omega
            · have hjj : j = sl := by omega
              have HNx : Hid (OwnWords wi w.heap.size (.slice oa2 ol2 oc2) (insAll (lsK g n x (k + 1)))) := Lib.hid (by rw [HSx.out, HLsl.out, ← hjj]; exact HOi.out)
              clear hjj
              go_wp2_with fail
              go_roundw
              case rel => exact ⟨k + 1, by omega, by go_num, HNx.out, HRb.out.below HBi.out, HBw2.out.trans (HBi.out.mono HBw2.out.size), fun s hs => ck (HR4b.out s hs) HBi.out⟩
              case measure => simp [intOf]; omega
      · have hkk : k = kM g := by omega
        have HE : Hid (OwnWords wr w.heap.size (.slice oa ol oc) (shP g (n + 1) x)) := Lib.hid (by rw [← HAll.out, ← hkk]; exact HO.out)
        clear hkk
        go_wp2_with fail
        go_ret
        exact ⟨_, rfl, HE.out, HB.out⟩
end Go.Proofs.Ytlnbodpdgebflaa
