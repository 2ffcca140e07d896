/- the table opened; length, follow, falls, last, below, open -/
import Derived.Test.YtlnbodpdgebflaaOa
namespace Go.Proofs.Ytlnbodpdgebflaa
open Go.RowKit

theorem TableAt.below {w w' : World} {T0 g : Nat} (h : TableAt w T0 g) (hb : Below w.heap.size w w') : TableAt w' T0 g := by
  obtain ⟨B, vw, vr, ws, rs, h1, h2, h3, h4, h5⟩ := h
  have hg := grown_of_below hb
  exact ⟨B, vw, vr, ws, rs, h1.below hb, h2.kept hg (own_none _), h3.kept hg (own_none _), fun i hi => (h4 i hi).kept hg (own_none _), fun i hi => (h5 i hi).kept hg (own_none _)⟩
/-- The table as cells. -/
structure Tab (w : World) (T0 g wb cw rb cr : Nat) (ws : List Value) (R C : Nat → Nat) : Prop where
  c0 : w.cell? ⟨T0, 0, none⟩ = some (.slice (some ⟨wb, 0, none⟩) (nE g) cw)
  c1 : w.cell? ⟨T0, 1, none⟩ = some (.slice (some ⟨rb, 0, none⟩) (nE g) cr)
  word : ∀ i, i < nE g → ∃ a c, ws.getD i undef = .slice a (ln g i) c ∧ w.cell? ⟨wb, i, none⟩ = some (.slice a (ln g i) c) ∧ Nats w (.slice a (ln g i) c) (wd g i) ∧ ln g i ≤ c
  right : ∀ i, i < nE g → w.cell? ⟨rb, i, none⟩ = some (.slice (some ⟨R i, 0, none⟩) (kM g) (C i)) ∧ kM g ≤ C i ∧ ∀ s, s < kM g → w.cell? ⟨R i, s, none⟩ = some (.int .i64 (rt g i s : Nat))
  cap : nE g ≤ cw ∧ nE g ≤ cr
theorem rw_length (g x : Nat) : (rw_ g x).length = kM g := by simp [rw_]
theorem rw_get (g x s : Nat) (hs : s < kM g) : (rw_ g x).getD s 0 = rt g x s := by simp [rw_, hs]
theorem wd_bd {g i : Nat} (hg : g < 17) (hi : i < nE g) : ∀ x ∈ wd g i, x < 65536 := fun x hx => by
  have := (tx hg hi).2.2.1 x hx
  have := (tg hg).2.2.2.1
  omega
theorem TableAt.open {w : World} {T0 g : Nat} (h : TableAt w T0 g) (hg : g < 17) : ∃ wb cw rb cr ws R C, Tab w T0 g wb cw rb cr ws R C := by
  obtain ⟨B, vw, vr, ws, rs, h1, h2, h3, h4, h5⟩ := h
  have hE := tE hg
  obtain ⟨wb, cw, rfl, hcw⟩ := own_lit h2 hE.1
  obtain ⟨rb, cr, rfl, hcr⟩ := own_lit h3 hE.1
  have h5' : ∀ i, i < nE g → ∃ b c, rs.getD i undef = .slice (some ⟨b, 0, none⟩) (kM g) c ∧ kM g ≤ c ∧ ∀ s, s < kM g → w.cell? ⟨b, s, none⟩ = some (.int .i64 (rt g i s : Nat)) := fun i hi => by
    have h6 := h5 i hi
    unfold Bg at h6
    rw [rw_length] at h6
    obtain ⟨b, c, e, hc⟩ := own_lit h6 (tg hg).2.2.1
    rw [e] at h6
    refine ⟨b, c, e, hc, fun s hs => ?_⟩
    rw [own_cell h6 hs]
    have := rw_get g i s hs
    simp [rw_, ints, nats, hs]
  refine ⟨wb, cw, rb, cr, ws, fun i => if h : i < nE g then (h5' i h).choose else 0, fun i => if h : i < nE g then (h5' i h).choose_spec.choose else 0, h1.at0.1, h1.at0.2, fun i hi => ?_, fun i hi => ?_, ⟨hcw, hcr⟩⟩
  · have h6 := h4 i hi
    obtain ⟨a, c, e⟩ := owns_form h6
    rw [e] at h6
    have hn := Bg.nats h6 (by have := (tx hg hi).2.1; unfold ln at this; omega) (wd_bd hg hi)
    obtain ⟨_, _, e', hc, _⟩ := Nats.open hn
    cases e'
    exact ⟨a, c, e, by rw [own_cell h2 hi, e]; rfl, hn, hc⟩
  · have q := (h5' i hi).choose_spec.choose_spec
    rw [dif_pos hi, dif_pos hi]
    exact ⟨(own_cell h3 hi).trans (congrArg some q.1), q.2.1, q.2.2⟩

set_option maxHeartbeats 400000 in
theorem length_any (g T0 x : Nat) (hg : g < 17) (w : World) (h : TableAt w T0 g) (hx : x < nE g) : Calls Try.prog 70 #[.pointer (some ⟨T0, 0, none⟩), .int .i64 x] w fun e w' => e = .returned (.int .i64 (ln g x : Nat)) ∧ w = w' := by
  obtain ⟨wb, cw, rb, cr, ws, R, C, ht⟩ := h.open hg
  have c0 := ht.c0
  obtain ⟨a, c, _, hc, _, hcap⟩ := ht.word x hx
  have hw := ht.cap.1
  clear h ht
  generalize ln g x = n at *
  generalize nE g = N at *
  go_enter Try.func70, Try.ntmps70
  go_wp2
  go_ret
  exact ⟨rfl, rfl⟩

/-- The element of a word, from x on. -/
def fol (g x : Nat) (l : List Nat) : Nat := l.foldl (rt g) x
theorem fol_lt {g : Nat} (hg : g < 17) : ∀ (l : List Nat) (x : Nat), x < nE g → (∀ s ∈ l, s < kM g) → fol g x l < nE g
  | [], _, hx, _ => hx
  | s :: l, x, hx, hl => fol_lt hg l _ (tb hg hx (hl s (by simp))).2.1 fun t ht => hl t (by simp [ht])
theorem fol_snoc (g x : Nat) (l : List Nat) (s : Nat) : fol g x (l ++ [s]) = rt g (fol g x l) s := by simp [fol]
theorem natT_snoc' (ys : List Nat) (k : Nat) (h : k < ys.length) : ys.take (k + 1) = ys.take k ++ [ys.getD k 0] := by
  rw [List.take_succ_eq_append_getElem h]; simp [h]

set_option maxHeartbeats 1000000 in
theorem follow_any (g T0 x : Nat) (hg : g < 17) (v : Value) (l : List Nat) (w : World) (h : TableAt w T0 g) (hx : x < nE g) (hv : Nats w v l) (hl : ∀ s ∈ l, s < kM g) :
    Calls Try.prog 72 #[.pointer (some ⟨T0, 0, none⟩), .int .i64 x, v] w fun e w' => e = .returned (.int .i64 (fol g x l : Nat)) ∧ w = w' := by
  obtain ⟨wb, cw, rb, cr, ws, R, C, ht⟩ := h.open hg
  obtain ⟨ao, cap, rfl, h1, h2, hxx⟩ := hv.open
  have c1 := ht.c1
  have HR := Lib.hid ht.right
  have HX := Lib.hid hxx
  have HL := Lib.hid hl
  have hcap := ht.cap.2
  have hk4 := (tg hg).2.2.2.1
  clear h ht hxx hv hl
  go_enter Try.func72, Try.ntmps72
  go_wp2
  go_loop [11, 1] (fun i y => ∃ k : Nat, k ≤ l.length ∧ i = .int .i64 k ∧ y = .int .i64 (fol g x (l.take k) : Nat)) (fun i _ => l.length - (intOf i).toNat)
  case atStart => exact ⟨0, Nat.zero_le _, rfl, rfl⟩
  case round =>
    obtain ⟨k, hk, rfl, rfl⟩ := hrel
    by_cases hlt : k < l.length
    · obtain ⟨b, o, rfl, hck⟩ := HX.out k hlt
      have hy := fol_lt hg (l.take k) x hx fun s hs => HL.out s (List.mem_of_mem_take hs)
      have hsl := HL.out _ (natD_mem hlt)
      have HS : Hid (fol g x (l.take (k + 1)) = rt g (fol g x (l.take k)) (l.getD k 0)) := Lib.hid (by rw [natT_snoc' _ _ hlt, fol_snoc])
      obtain ⟨r1, r2, r3⟩ := HR.out _ hy
      have r4 := r3 _ hsl
      clear r3
      generalize fol g x (l.take k) = y at *
      generalize l.getD k 0 = s at *
      generalize rt g y s = r at *
      generalize R y = q at *
      generalize C y = cq at *
      generalize nE g = N at *
      generalize kM g = K at *
      go_wp2
      go_round
      case rel => exact ⟨k + 1, by omega, by go_num, by rw [HS.out]⟩
      case measure => simp [intOf]; omega
    · obtain rfl : k = l.length := by omega
      rw [List.take_length]
      go_wp2
      go_ret
      exact ⟨rfl, rfl⟩

set_option maxHeartbeats 400000 in
theorem falls_any (g T0 x s : Nat) (hg : g < 17) (w : World) (h : TableAt w T0 g) (hx : x < nE g) (hs : s < kM g) :
    Calls Try.prog 80 #[.pointer (some ⟨T0, 0, none⟩), .int .i64 x, .int .i64 s] w fun e w' => e = .returned (.bool (decide (ln g (rt g x s) < ln g x))) ∧ w = w' := by
  obtain ⟨wb, cw, rb, cr, ws, R, C, ht⟩ := h.open hg
  have c1 := ht.c1
  obtain ⟨r1, r2, r3⟩ := ht.right _ hx
  have r4 := r3 _ hs
  have hcap := ht.cap.2
  have HA := Lib.hid (length_any g T0 x hg w h hx)
  have HB := Lib.hid (length_any g T0 (rt g x s) hg w h (tb hg hx hs).2.1)
  clear r3 ht h
  generalize ln g (rt g x s) = n1 at *
  generalize ln g x = n2 at *
  generalize rt g x s = r at *
  generalize R x = q at *
  generalize C x = cq at *
  generalize nE g = N at *
  generalize kM g = K at *
  go_enter Try.func80, Try.ntmps80
  go_wp2_with fail
  refine HB.out.mono ?_
  rintro e w' ⟨rfl, rfl⟩
  go_wp2_with fail
  refine HA.out.mono ?_
  rintro e w' ⟨rfl, rfl⟩
  go_wp2_with fail
  go_ret
  exact ⟨ret_bool (decide_eq_decide.2 (by omega)), rfl⟩

theorem quiet_eq {P : Program} {f : FuncId} {args : Array Value} {w : World} {n : Nat} {v : Value}
    (h : Calls P f args (w.drewN n) fun e w' => e = .returned v ∧ w.drewN n = w') : Calls P f args (w.drewN n) fun e w'' => e = .returned v ∧ ∃ m, w'' = w.drewN m :=
  h.mono fun _ _ ⟨he, hm⟩ => ⟨he, n, hm.symm⟩
theorem TableAt.drewN {w : World} {T0 g : Nat} (h : TableAt w T0 g) (n : Nat) : TableAt (w.drewN n) T0 g := h.below (below_drewN (Below.refl _ _) n)

/-- The last letter of the normal word of x. -/
def lastL (g x : Nat) : Nat := (wd g x).getD (ln g x - 1) 0
theorem last_chk : ((List.range 17).all fun g => (List.range (nE g)).all fun x => x == 0 || (decide (0 < ln g x) && decide (lastL g x < kM g) && decide (ln g (rt g x (lastL g x)) < ln g x))) = true := by decide +kernel
theorem last_ok {g x : Nat} (hg : g < 17) (hx : x < nE g) (h0 : x ≠ 0) : 0 < ln g x ∧ lastL g x < kM g ∧ ln g (rt g x (lastL g x)) < ln g x := by
  have h1 := List.all_eq_true.1 (List.all_eq_true.1 last_chk g (List.mem_range.2 hg)) x (List.mem_range.2 hx)
  simp only [Bool.or_eq_true, Bool.and_eq_true, decide_eq_true_eq, beq_iff_eq] at h1
  rcases h1 with h1 | ⟨⟨a, b⟩, c⟩
  · exact absurd h1 h0
  · exact ⟨a, b, c⟩

set_option maxHeartbeats 400000 in
theorem last_any (g T0 x : Nat) (hg : g < 17) (w : World) (h : TableAt w T0 g) (hx : x < nE g) (h0 : x ≠ 0) :
    Calls Try.prog 102 #[.pointer (some ⟨T0, 0, none⟩), .int .i64 x] w fun e w' => e = .returned (.int .i64 (lastL g x : Nat)) ∧ ∃ n, w' = w.drewN n := by
  obtain ⟨wb, cw, rb, cr, ws, R, C, ht⟩ := h.open hg
  have c0 := ht.c0
  obtain ⟨a, c, _, hc, hn, hcap⟩ := ht.word x hx
  obtain ⟨_, _, e', _, _, hxx⟩ := Nats.open hn
  obtain ⟨hl0, _, _⟩ := last_ok hg hx h0
  have hl12 := (tx hg hx).2.1
  unfold ln at e'
  cases e'
  obtain ⟨b, o, rfl, hck⟩ := hxx (ln g x - 1) (by unfold ln at *; omega)
  have HL := Lib.hid (fun n => length_any g T0 x hg (w.drewN n) (h.drewN n) hx)
  have hw := ht.cap.1
  have hck' : w.cell? ⟨b, o + (ln g x - 1), none⟩ = some (.int .i64 (lastL g x : Nat)) := hck
  have ht1 : ((ln g x : Int) - 1).toNat = ln g x - 1 := by omega
  have ht2 : (ln g x : Int) - 1 = ((ln g x - 1 : Nat) : Int) := by omega
  clear ht h hn hxx hck h0
  generalize lastL g x = z at *
  generalize ln g x = n at *
  generalize nE g = N at *
  go_enter Try.func102, Try.ntmps102
  go_wp2_with fail
  go_quiet ((go_at_call 70; exact quiet_eq (HL.out _)))
  go_wp2
  go_ret
  exact ⟨rfl, _, rfl⟩

/-- Is u below y? Letter by letter of y's normal word, from behind. -/
def loF (g : Nat) : Nat → Nat → Nat → Bool
  | 0, u, _ => u == 0
  | f + 1, u, y => if y = 0 then u == 0 else loF g f (if ln g (rt g u (lastL g y)) < ln g u then rt g u (lastL g y) else u) (rt g y (lastL g y))
def loB (g u y : Nat) : Bool := loF g (ln g y) u y
theorem last_chk2 : ((List.range 17).all fun g => (List.range (nE g)).all fun x => x == 0 || (ln g (rt g x (lastL g x)) + 1 == ln g x)) = true := by decide +kernel
theorem last_ok2 {g x : Nat} (hg : g < 17) (hx : x < nE g) (h0 : x ≠ 0) : ln g (rt g x (lastL g x)) + 1 = ln g x := by
  have h1 := List.all_eq_true.1 (List.all_eq_true.1 last_chk2 g (List.mem_range.2 hg)) x (List.mem_range.2 hx)
  simp only [Bool.or_eq_true, beq_iff_eq] at h1
  exact h1.resolve_left h0
theorem lo_step {g u y : Nat} (hg : g < 17) (hy : y < nE g) (h0 : y ≠ 0) : loB g u y = loB g (if ln g (rt g u (lastL g y)) < ln g u then rt g u (lastL g y) else u) (rt g y (lastL g y)) := by
  unfold loB
  rw [← last_ok2 hg hy h0, loF, if_neg h0]
theorem lo_zero {g u : Nat} (hg : g < 17) : loB g u 0 = (u == 0) := by
  unfold loB ln
  rw [(tg hg).2.2.2.2.2.2.2.1]
  rfl

set_option maxHeartbeats 1000000 in
theorem below_any (g T0 u y : Nat) (hg : g < 17) (w : World) (h : TableAt w T0 g) (hu : u < nE g) (hy : y < nE g) :
    Calls Try.prog 83 #[.pointer (some ⟨T0, 0, none⟩), .int .i64 u, .int .i64 y] w fun e w' => e = .returned (.bool (loB g u y)) ∧ ∃ n, w' = w.drewN n := by
  have HT := Lib.hid h
  obtain ⟨T, hT⟩ : ∃ T, T = loB g u y := ⟨_, rfl⟩
  rw [← hT]
  have HT0 := Lib.hid hT
  clear h hT
  go_enter Try.func83, Try.ntmps83
  go_wp2_with fail
  go_loopw [1, 2] (fun a b wr => ∃ (u y : Nat), u < nE g ∧ y < nE g ∧ a = .int .i64 u ∧ b = .int .i64 y ∧ T = loB g u y ∧ ∃ n, wr = w.drewN n) (fun _ b _ => ln g (intOf b).toNat)
  case atStart => exact ⟨u, y, hu, hy, rfl, rfl, HT0.out, 0, rfl⟩
  case round =>
    obtain ⟨u, y, hu, hy, rfl, rfl, hTt, n0, hwr⟩ := hrel
    have HWr := Lib.hid hwr
    have HTt := Lib.hid hTt
    have HTr : Hid (TableAt wr T0 g) := Lib.hid (by rw [hwr]; exact HT.out.drewN n0)
    clear hTt HT0 hwr
    by_cases h0 : y = 0
    · subst h0
      have HE : Hid (T = (u == 0)) := Lib.hid (by rw [HTt.out, lo_zero hg])
      clear HTt
      go_wp2_with fail
      go_ret
      exact ⟨ret_bool (by rw [HE.out]; exact Bool.eq_iff_iff.2 (by simp)), n0, HWr.out⟩
    · obtain ⟨h1, h2, h3⟩ := last_ok hg hy h0
      have HS := Lib.hid (lo_step (u := u) hg hy h0)
      have HL := Lib.hid (last_any g T0 y hg wr HTr.out hy h0)
      have HF := Lib.hid (fun n => falls_any g T0 u (lastL g y) hg (wr.drewN n) (HTr.out.drewN n) hu h2)
      obtain ⟨wb, cw, rb, cr, ws, R, C, ht⟩ := HTr.out.open hg
      have c1 := ht.c1
      obtain ⟨r1, r2, r3⟩ := ht.right _ hy
      have r4 := r3 _ h2
      obtain ⟨q1, q2, q3⟩ := ht.right _ hu
      have q4 := q3 _ h2
      have hcap := ht.cap.2
      have hy2 := (tb hg hy h2).2.1
      have hu2 := (tb hg hu h2).2.1
      have hne : ((y:Int) == 0) = false := beq_eq_false_iff_ne.2 (by omega)
      have HM : Hid (ln g (rt g y (lastL g y)) < ln g y) := Lib.hid h3
      clear r3 q3 ht h0 h1 h3
      generalize lastL g y = s at *
      generalize hqy : rt g y s = y2 at *
      generalize hqu : rt g u s = u2 at *
      generalize R y = qy at *
      generalize C y = cy at *
      generalize R u = qu at *
      generalize C u = cu at *
      go_wp2_with fail
      refine HL.out.mono ?_
      rintro e w1 ⟨rfl, n1, rfl⟩
      go_wp2_with fail
      refine (HF.out n1).mono ?_
      rintro e w2 ⟨rfl, rfl⟩
      by_cases hf : ln g u2 < ln g u
      · have hd := decide_eq_true hf
        have HE : Hid (T = loB g u2 y2) := Lib.hid (by rw [HTt.out, HS.out, if_pos hf])
        clear hf
        go_wp2_with fail
        go_roundw
        case rel => exact ⟨u2, y2, hu2, hy2, rfl, rfl, HE.out, _, by rw [HWr.out]; exact World.drewN_drewN _ _ _⟩
        case measure => simp only [intOf, Int.toNat_natCast]; exact HM.out
      · have hd := decide_eq_false hf
        have HE : Hid (T = loB g u y2) := Lib.hid (by rw [HTt.out, HS.out, if_neg hf])
        clear hf
        go_wp2_with fail
        go_roundw
        case rel => exact ⟨u, y2, hu, hy2, rfl, rfl, HE.out, _, by rw [HWr.out]; exact World.drewN_drewN _ _ _⟩
        case measure => simp only [intOf, Int.toNat_natCast]; exact HM.out
end Go.Proofs.Ytlnbodpdgebflaa
