/- fillings, Kostka, Standard -/
import Derived.Test.YtpblbolflnjjnaaWh
import Derived.Test.YtpblbolflnjjnaaWi
namespace Go.Proofs.Ytpblbolflnjjnaa
open Go.RowKit

def capsOf (l : List Int) : List Nat := l.map Int.toNat

/-- All fillings of l with the content m, rising. -/
def fillS (l m : List Int) : List (List (List Int)) := if isum l = isum m then srch (capsOf l) 17 0 (initRows (capsOf l) []) (tallyS m) else []

theorem Shape.bd {l : List Int} (h : Shape l) : ∀ x ∈ l, 1 ≤ x ∧ x ≤ 8 := fun x hx => by
  obtain ⟨k, hk, rfl⟩ := mem_getD hx
  have := h.2.1 k hk
  omega
theorem Content.bd {l : List Int} (h : Content l) : ∀ x ∈ l, 0 ≤ x ∧ x ≤ 8 := fun x hx => by
  obtain ⟨k, hk, rfl⟩ := mem_getD hx
  exact h.2.1 k hk
theorem capsOf_int {l : List Int} (h : ∀ x ∈ l, 0 ≤ x) : (capsOf l).map (fun (c : Nat) => (c : Int)) = l := by
  induction l with
  | nil => rfl
  | cons a t ih =>
    have h1 := h a (by simp)
    have h2 := ih fun x hx => h x (by simp [hx])
    simp only [capsOf, List.map_cons] at *
    rw [h2, show ((a.toNat : Nat) : Int) = a by omega]
theorem capsOf_sum {l : List Int} (h : ∀ x ∈ l, 0 ≤ x) : ((capsOf l).sum : Int) = isum l := by
  induction l with
  | nil => rfl
  | cons a t ih =>
    have h1 := h a (by simp)
    have h2 := ih fun x hx => h x (by simp [hx])
    simp only [capsOf, isum, List.map_cons, List.sum_cons] at *
    omega
theorem tallyS_bd {m : List Int} (h : Content m) : ∀ x ∈ tallyS m, 0 ≤ x ∧ x ≤ 8 := by
  intro x hx
  simp only [tallyS, List.mem_map] at hx
  obtain ⟨k, _, rfl⟩ := hx
  exact list_getD_bd h.bd k

theorem Ints.nil (w : World) : Ints w (.slice none 0 0) [] := ⟨⟨none, 0, rfl, Nat.le_refl _, Nat.zero_le _, Nat.zero_le _, .inl rfl⟩, fun x hx => by simp at hx⟩

theorem flatMap_len {α β : Type} (l : List α) (g : α → List β) (B : Nat) (h : ∀ x ∈ l, (g x).length ≤ B) : (l.flatMap g).length ≤ l.length * B := by
  induction l with
  | nil => simp
  | cons a t ih =>
    rw [List.flatMap_cons, List.length_append, List.length_cons, Nat.succ_mul]
    have := h a (by simp)
    have := ih fun x hx => h x (by simp [hx])
    omega

theorem leastS_ge (rs : List (List Int)) (i j : Int) : 1 ≤ leastS rs i j := by unfold leastS; omega

theorem srch_len (caps : List Nat) : ∀ (fuel i : Nat) (rs : List (List Int)) (left : List Int), rs.length = caps.length → (∀ j, j < rs.length → (rs.getD j []).length ≤ caps.getD j 0) → i ≤ caps.length →
    (srch caps fuel i rs left).length ≤ 8 ^ (caps.sum - nboxes rs) := by
  intro fuel
  induction fuel with
  | zero => intro i rs left _ _ _; simp [srch]
  | succ fuel ih =>
    intro i rs left hl hj hi
    simp only [srch]
    split
    · exact Nat.one_le_pow _ _ (by omega)
    · split
      · exact ih _ _ _ hl hj (by omega)
      · rename_i h1 h2
        have hlt : i < rs.length := by omega
        have hb := nboxes_le rs caps hl hj
        have hstep : ∀ c : Int, (∀ j, j < (rs.set i (rs.getD i [] ++ [c])).length → ((rs.set i (rs.getD i [] ++ [c])).getD j []).length ≤ caps.getD j 0) := by
          intro c j hjl
          rw [getD_set _ _ _ _ _ hlt]
          split
          · rename_i e; subst e
            have := hj i hlt
            simp only [List.length_append, List.length_cons, List.length_nil]
            omega
          · exact hj j (by simpa using hjl)
        have hn : nboxes rs < caps.sum := by
          have h := nboxes_le _ caps (by simpa using hl) (hstep 0)
          rw [nboxes_set _ _ _ hlt] at h
          omega
        refine Nat.le_trans (flatMap_len _ _ (8 ^ (caps.sum - nboxes rs - 1)) fun n _ => ?_) ?_
        · split
          · exact Nat.zero_le _
          · refine Nat.le_trans (ih i _ _ (by simpa using hl) (hstep _) hi) ?_
            rw [nboxes_set _ _ _ hlt]
            exact Nat.pow_le_pow_right (by omega) (by omega)
        · rw [List.length_range']
          have := leastS_ge rs i (rs.getD i []).length
          have e : caps.sum - nboxes rs = (caps.sum - nboxes rs - 1) + 1 := by omega
          rw [e, Nat.pow_succ, Nat.mul_comm, show caps.sum - nboxes rs - 1 + 1 - 1 = caps.sum - nboxes rs - 1 by omega]
          exact Nat.mul_le_mul_left _ (by omega)

theorem initRows_ok (caps : List Nat) : (initRows caps []).length = caps.length ∧ ∀ j, j < (initRows caps []).length → ((initRows caps []).getD j []).length ≤ caps.getD j 0 := by
  refine ⟨by simp [initRows], fun j hj => ?_⟩
  have hj : j < caps.length := by simpa [initRows] using hj
  rw [initRows_getD _ _ _ hj]
  simp

theorem fillS_len {l m : List Int} (h : Shape l) : (fillS l m).length ≤ 16777216 := by
  unfold fillS
  split
  · refine Nat.le_trans (srch_len _ 17 0 _ _ (initRows_ok _).1 (initRows_ok _).2 (Nat.zero_le _)) ?_
    have h1 := capsOf_sum (l := l) fun x hx => by have := h.bd x hx; omega
    have h2 := h.2.2
    exact Nat.pow_le_pow_right (n := 8) (by omega) (show _ ≤ 8 by omega)
  · simp

/-- What a call of fillings leaves. -/
def FillingsPost (I : List (List (List Int)) → World → (Nat → Prop) → Prop) (l m : List Int) (acc : List (List (List Int))) (w : World) (fp : Nat → Prop) (e : Ending) (w' : World) : Prop :=
  if shB l && coB m then e = .returned (.int .i64 0) ∧ ∃ fp', I (acc ++ fillS l m) w' fp' ∧ Mod fp w w' ∧ ∀ k, fp' k → fp k ∨ w.heap.size ≤ k
  else e = .returned (.int .i64 2) ∧ w = w'

set_option maxHeartbeats 1000000 in
theorem fillings_any (w0 w : World) (hb0 : Below w0.heap.size w0 w) (vl vm fv : Value) (l m : List Int) (hvl : Ints w0 vl l) (hvm : Ints w0 vm m) (hfv : ∃ ao fn fc, fv = .func ao fn fc)
    (I : List (List (List Int)) → World → (Nat → Prop) → Prop) (fid : Nat) (fcap : Array Value)
    (hv : ∀ f : Fb, f.w0 = w0 → f.fv = fv → f.caps.length ≤ 100 → f.gs.length = f.caps.length → (∀ c ∈ f.caps, c ≤ 100) → Visit f I fid fcap) (acc : List (List (List Int))) (fp : Nat → Prop) (hI : I acc w fp)
    (hkeep : ∀ w', Below w.heap.size w w' → I acc w' fp) (hM : acc = []) :
    Calls Try.prog 66 #[vl, vm, fv] w (FillingsPost I l m acc w fp) := by
  subst hM
  have hl := hvl.below hb0 (Nat.le_refl _)
  have hm := hvm.below hb0 (Nat.le_refl _)
  by_cases hsh : shB l = true
  · by_cases hco : coB m = true
    · have hs : Shape l := of_decide_eq_true hsh
      have hc : Content m := of_decide_eq_true hco
      have HP : Hid (∀ e w', (e = .returned (.int .i64 0) ∧ ∃ fp', I ([] ++ fillS l m) w' fp' ∧ Mod fp w w' ∧ ∀ k, fp' k → fp k ∨ w.heap.size ≤ k) → FillingsPost I l m [] w fp e w') := fun e w' h => by
        unfold FillingsPost; rw [if_pos (by simp [hsh, hco])]; exact h
      by_cases hsum : isum l = isum m
      · have HN : Hid (fillS l m = srch (capsOf l) 17 0 (initRows (capsOf l) []) (tallyS m)) := if_pos hsum
        have heq : (isum l == isum m) = true := by simpa using hsum
        have h0 : ∀ x ∈ l, 0 ≤ x := fun x hx => by have := hs.bd x hx; omega
        have hcl : (capsOf l).length ≤ 8 := by rw [capsOf, List.length_map]; exact hs.1
        have hcb : ∀ c ∈ capsOf l, 1 ≤ c ∧ c ≤ 100 := fun c hc => by
          simp only [capsOf, List.mem_map] at hc
          obtain ⟨x, hx, rfl⟩ := hc
          have := hs.bd x hx
          omega
        have hsum8 := capsOf_sum h0
        have hs3 := hs.2.2
        have hfuel : (capsOf l).length + (capsOf l).sum < 17 := by omega
        have HK := hidIt hkeep
        have HFill : Hid (∀ w1, Below w.heap.size w w1 → Calls Try.prog 73 #[vl, .slice none 0 0, .agg (ints (tallyS m)).toArray, fv] w1 fun e w' => e = .returned (.tuple #[]) ∧ ∃ fp', I ([] ++ srch (capsOf l) 17 0 (initRows (capsOf l) []) (tallyS m)) w' fp' ∧ Mod fp w1 w' ∧ ∀ k, fp' k → fp k ∨ w1.heap.size ≤ k) := by
          intro w1 hb1
          refine fill_any w0 w1 (hb0.trans (hb1.mono hb0.size)) vl (.slice none 0 0) fv (capsOf l) [] (tallyS m) (by rw [capsOf_int h0]; exact hvl) (Ints.nil w0) hcb (by omega) (by simp [tallyS]) (tallyS_bd hc) ?_ I fid fcap hfv hv [] fp (hkeep w1 hb1) 17 hfuel (by have := fillS_len (m := m) hs; rw [HN.out] at this; simpa using this)
          intro i hi
          simp
        clear hkeep hI hsum hv hcl hsum8 hs3 hfuel
        go_enter Try.func66, Try.ntmps66
        go_wp2_with (first
          | (go_at_call 72; refine (isShape_any _ l _ hl).mono ?_; rintro e w' ⟨rfl, rfl⟩)
          | (go_at_call 103; refine (isContent_any _ m _ hm).mono ?_; rintro e w' ⟨rfl, rfl⟩)
          | (go_at_call_of 77 vl; refine (boxes_any _ l _ hl (fun x hx => ⟨by have := hs.bd x hx; omega, (hs.bd x hx).2⟩)).mono ?_; rintro e w' ⟨rfl, rfl⟩)
          | (go_at_call_of 77 vm; refine (boxes_any _ m _ hm hc.bd).mono ?_; rintro e w' ⟨rfl, rfl⟩)
          | (go_at_call 104; refine (tallyOf_any _ m _ hm hc.1).mono ?_; rintro e w1 ⟨rfl, hb1⟩)
          | (go_at_call 73; refine (HFill.out _ hb1).mono ?_; rintro e w2 ⟨rfl, hq⟩))
        go_ret
        refine HP.out _ _ ⟨rfl, ?_⟩
        obtain ⟨fp', q1, q2, q3⟩ := hq
        rw [HN.out]
        exact ⟨fp', q1, (Mod.of_below hb1).trans q2 fun k hk => .inl hk, fun k hk => (q3 k hk).elim .inl fun h => .inr (Nat.le_trans hb1.size h)⟩
      · have HN : Hid (fillS l m = []) := if_neg hsum
        have hne : (isum l == isum m) = false := by simpa using hsum
        clear hkeep hsum hv
        have HI := hidIt hI
        clear hI
        go_enter Try.func66, Try.ntmps66
        go_wp2_with (first
          | (go_at_call 72; refine (isShape_any _ l _ hl).mono ?_; rintro e w' ⟨rfl, rfl⟩)
          | (go_at_call 103; refine (isContent_any _ m _ hm).mono ?_; rintro e w' ⟨rfl, rfl⟩)
          | (go_at_call_of 77 vl; refine (boxes_any _ l _ hl (fun x hx => ⟨by have := hs.bd x hx; omega, (hs.bd x hx).2⟩)).mono ?_; rintro e w' ⟨rfl, rfl⟩)
          | (go_at_call_of 77 vm; refine (boxes_any _ m _ hm hc.bd).mono ?_; rintro e w' ⟨rfl, rfl⟩))
        go_ret
        refine HP.out _ _ ⟨rfl, fp, ?_, Mod.refl _ _, fun k h => .inl h⟩
        rw [HN.out, List.append_nil]
        exact HI.out
    · have hco' : coB m = false := by simpa using hco
      have HP : Hid (∀ w', w = w' → FillingsPost I l m [] w fp (.returned (.int .i64 2)) w') := fun w' h => by
        unfold FillingsPost; rw [if_neg (by simp [hsh, hco'])]; exact ⟨rfl, h⟩
      clear hkeep hv hI hco
      go_enter Try.func66, Try.ntmps66
      go_wp2_with (first
        | (go_at_call 72; refine (isShape_any _ l _ hl).mono ?_; rintro e w' ⟨rfl, rfl⟩)
        | (go_at_call 103; refine (isContent_any _ m _ hm).mono ?_; rintro e w' ⟨rfl, rfl⟩))
      go_ret
      exact HP.out _ rfl
  · have hsh' : shB l = false := by simpa using hsh
    have HP : Hid (∀ w', w = w' → FillingsPost I l m [] w fp (.returned (.int .i64 2)) w') := fun w' h => by
      unfold FillingsPost; rw [if_neg (by simp [hsh'])]; exact ⟨rfl, h⟩
    clear hkeep hv hI hsh
    go_enter Try.func66, Try.ntmps66
    go_wp2_with (go_at_call 72; refine (isShape_any _ l _ hl).mono ?_; rintro e w' ⟨rfl, rfl⟩)
    go_ret
    exact HP.out _ rfl
end Go.Proofs.Ytpblbolflnjjnaa
