/- steep sequences: they are what Steep makes of their differences; the reference's comparison -/
import Derived.Test.YtellnklbkjajbaaDoorGq
namespace Go.Proofs.YtellnklbkjajbaaDoor
open Go.RowKit

set_option maxHeartbeats 2000000 in
theorem same_any (v u : Value) (xs ys : List Int) (w : World) (h : Ints w v xs) (h' : Ints w u ys) :
    Calls Tryd.prog 90 #[v, u] w fun e w' => e = .returned (.bool (eqB xs ys)) ∧ Below w.heap.size w w' := by
  obtain ⟨ao, cap, rfl, h1, h2, hx⟩ := h.cells
  obtain ⟨ao', cap', rfl, h1', h2', hy⟩ := h'.cells
  have HX := Lib.hid hx
  have HY := Lib.hid hy
  have HB0 := Lib.hid (Below.refl w.heap.size w)
  clear h h' hx hy
  go_enter Tryd.func90, Tryd.ntmps90
  go_wp2_with fail
  go_loopw [9] (fun i wr => ∃ k : Nat, k ≤ xs.length ∧ i = .int .i64 k ∧ (∀ j, j < k → j < ys.length ∧ xs.getD j 0 = ys.getD j 0) ∧ Below w.heap.size w wr) (fun i _ => xs.length - (intOf i).toNat)
  case atStart => exact ⟨0, Nat.zero_le _, rfl, fun j hj => absurd hj (by omega), HB0.out⟩
  case round =>
    obtain ⟨k, hk, rfl, hall, hB⟩ := hrel
    have HB := Lib.hid hB
    clear hB
    by_cases hlt : k < xs.length
    · obtain ⟨b, o, rfl, hck⟩ := HX.out wr HB.out k hlt
      by_cases hly : k < ys.length
      · obtain ⟨b', o', rfl, hcy⟩ := HY.out wr HB.out k hly
        have HA : Hid (xs.getD k 0 = ys.getD k 0 → ∀ j, j < k + 1 → j < ys.length ∧ xs.getD j 0 = ys.getD j 0) := Lib.hid fun hx j hj => by
          by_cases e : j = k
          · subst e; exact ⟨hly, hx⟩
          · exact hall j (by omega)
        have HF : Hid (xs.getD k 0 ≠ ys.getD k 0 → eqB xs ys = false) := Lib.hid fun hx => eqB_at hx
        clear hall
        generalize xs.getD k 0 = x at *
        generalize ys.getD k 0 = y at *
        have hg : ¬ ((ys.length : Int) ≤ (k : Int)) := by omega
        by_cases hxy : x = y
        · subst hxy
          have HA' := Lib.hid (HA.out rfl)
          clear HA HF
          go_wp2_with fail
          go_roundw
          case rel => exact ⟨k + 1, by omega, by go_num, HA'.out, HB.out⟩
          case measure => simp [intOf]; omega
        · have HF' := Lib.hid (HF.out hxy)
          have hne : (y != x) = true := by simpa using fun h => hxy h.symm
          have hne2 : (y == x) = false := by simpa using fun h => hxy h.symm
          clear HA HF
          go_wp2_with fail
          go_ret
          exact ⟨ret_bool HF'.out.symm, HB.out⟩
      · have HF : Hid (eqB xs ys = false) := Lib.hid (eqB_len (by omega))
        have hg : (ys.length : Int) ≤ (k : Int) := by omega
        clear hall HY
        generalize xs.getD k 0 = x at *
        go_wp2_with fail
        go_ret
        exact ⟨ret_bool HF.out.symm, HB.out⟩
    · obtain rfl : k = xs.length := by omega
      clear HX HY
      by_cases hl : xs.length = ys.length
      · have HE : Hid (eqB xs ys = true) := Lib.hid (eqB_all hl fun j hj => (hall j hj).2)
        have hL : ((xs.length : Int) == (ys.length : Int)) = true := by simp [hl]
        clear hall hl
        go_wp2_with fail
        go_ret
        exact ⟨ret_bool HE.out.symm, HB.out⟩
      · have HE : Hid (eqB xs ys = false) := Lib.hid (eqB_len hl)
        have hL : ((xs.length : Int) == (ys.length : Int)) = false := by simpa using fun h => hl (by exact_mod_cast h)
        clear hall hl
        go_wp2_with fail
        go_ret
        exact ⟨ret_bool HE.out.symm, HB.out⟩

def sqs : Nat → Nat → List (List Nat)
  | 0, _ => [[]]
  | m + 1, p => (List.range 13).flatMap fun x => if decide (p < x) || (p == x && x == 0) then (sqs m x).map (x :: ·) else []
def chkS (s : List Nat) : Bool := steepV (dfL (nats s)) == nats s
theorem uq1 : (sqs 1 0).all chkS = true := by decide +kernel
theorem uq2 : (sqs 2 0).all chkS = true := by decide +kernel
theorem uq3 : (sqs 3 0).all chkS = true := by decide +kernel
theorem uq4 : (sqs 4 0).all chkS = true := by decide +kernel
theorem uq5 : (sqs 5 0).all chkS = true := by decide +kernel
theorem uq6 : (sqs 6 0).all chkS = true := by decide +kernel
/-- A steep sequence of numbers up to 12. -/
structure Sq (s : List Nat) : Prop where
  le : ∀ k, k < s.length → s.getD k 0 ≤ 12
  up : ∀ k, k < s.length → 0 < k → s.getD (k - 1) 0 < s.getD k 0 ∨ (s.getD (k - 1) 0 = s.getD k 0 ∧ s.getD k 0 = 0)
theorem mem_sqs : ∀ (l : List Nat) (p : Nat), (∀ k, k < l.length → l.getD k 0 ≤ 12) → (l = [] ∨ p < l.getD 0 0 ∨ (p = l.getD 0 0 ∧ l.getD 0 0 = 0)) → (∀ k, k < l.length → 0 < k → l.getD (k - 1) 0 < l.getD k 0 ∨ (l.getD (k - 1) 0 = l.getD k 0 ∧ l.getD k 0 = 0)) → l ∈ sqs l.length p
  | [], p, _, _, _ => by simp [sqs]
  | x :: l, p, h, h0, hu => by
    rw [List.length_cons, sqs, List.mem_flatMap]
    refine ⟨x, List.mem_range.2 (by have := h 0 (by simp); simp at this; omega), ?_⟩
    have c : (decide (p < x) || (p == x && x == 0)) = true := by
      rcases h0 with h0 | h0 | ⟨h0, h1⟩
      · simp at h0
      · simp at h0; simp [h0]
      · simp at h0 h1; simp [h0, h1]
    rw [if_pos c]
    refine List.mem_map.2 ⟨l, mem_sqs l x (fun k hk => by have := h (k + 1) (by simp; omega); simpa using this) ?_ (fun k hk hk0 => ?_), rfl⟩
    · cases l with
      | nil => exact .inl rfl
      | cons y l => right; have := hu 1 (by simp) (by omega); simpa using this
    · have := hu (k + 1) (by simp; omega) (by omega)
      obtain ⟨k', rfl⟩ : ∃ k', k = k' + 1 := ⟨k - 1, by omega⟩
      simpa using this
theorem Sq.back {s : List Nat} (h : Sq s) (h0 : 0 < s.length) (hl : s.length ≤ 6) : steepV (dfL (nats s)) = nats s := by
  have hm := mem_sqs s 0 h.le (by
    right
    by_cases e : s.getD 0 0 = 0
    · exact .inr ⟨e.symm, e⟩
    · exact .inl (by omega)) h.up
  have key : ∀ k, k = s.length → (sqs k 0).all chkS = true → steepV (dfL (nats s)) = nats s := fun k e hk => by
    subst e
    exact eq_of_beq (List.all_eq_true.1 hk s hm)
  have : s.length = 1 ∨ s.length = 2 ∨ s.length = 3 ∨ s.length = 4 ∨ s.length = 5 ∨ s.length = 6 := by omega
  rcases this with e | e | e | e | e | e
  · exact key _ e.symm uq1
  · exact key _ e.symm uq2
  · exact key _ e.symm uq3
  · exact key _ e.symm uq4
  · exact key _ e.symm uq5
  · exact key _ e.symm uq6
/-- The one steep sequence with these differences. -/
structure Tgt (D : List Int) (n : Nat) (U : List Nat) : Prop where
  len : U.length = n
  sq : Sq U
  df : dfL (nats U) = D
theorem Tgt.leaf {D : List Int} {n : Nat} {U s : List Nat} (h : Tgt D n U) (h0 : 0 < n) (hn : n ≤ 6) (hs : Sq s) (hl : s.length = n) : eqB (dfL (nats s)) D = decide (s = U) := by
  by_cases e : s = U
  · subst e; rw [h.df]; simp [eqB]
  · rw [decide_eq_false e]
    exact decide_eq_false fun e2 => e (nats_inj (by
      rw [← hs.back (by omega) (by omega), e2, ← h.df, h.sq.back (by rw [h.len]; omega) (by rw [h.len]; omega)]))
theorem spF_le (O : List Int) (z : Nat) (hO : ∀ y ∈ O, y ≤ 6) : ∀ j, j ≤ O.length → ∀ y ∈ spF O z j, y ≤ 6 + ((z + j : Nat) : Int)
  | 0, _, y, h => by have := List.eq_of_mem_replicate h; omega
  | j + 1, hj, y, h => by
    rw [spF] at h
    rcases List.mem_append.1 h with h | h
    · have := spF_le O z hO j (by omega) y h; omega
    · rw [List.mem_singleton] at h
      have := hO _ (getD_mem (xs := O) (k := j) (by omega))
      omega
theorem dif_le (xs : List Int) (h : ∀ x ∈ xs, x ≤ 6) : ∀ k, k ≤ xs.length → ∀ y ∈ dif xs k, y ≤ 6
  | 0, _, y, hy => by simp [dif] at hy
  | k + 1, hk, y, hy => by
    rw [dif] at hy
    rcases List.mem_append.1 hy with hy | hy
    · exact dif_le xs h k (by omega) y hy
    · rw [List.mem_singleton] at hy
      have := h _ (getD_mem (xs := xs) (k := k) (by omega))
      omega
theorem insS_mem {x y : Int} : ∀ {l : List Int}, y ∈ insS x l → y = x ∨ y ∈ l
  | [], h => by simpa [insS] using h
  | z :: l, h => by
    rw [insS] at h
    split at h
    · rcases List.mem_cons.1 h with h | h
      · exact .inr (by simp [h])
      · rcases insS_mem h with h | h
        · exact .inl h
        · exact .inr (by simp [h])
    · simpa using h
theorem risL_le {xs : List Int} (h : ∀ y ∈ xs, y ≤ 6) : ∀ y ∈ risL xs, y ≤ 6 := by
  have key : ∀ (xs l : List Int), (∀ y ∈ xs, y ≤ 6) → (∀ y ∈ l, y ≤ 6) → ∀ y ∈ xs.foldl (fun l x => insS x l) l, y ≤ 6 := by
    intro xs
    induction xs with
    | nil => intro l _ h2; simpa using h2
    | cons x xs ih =>
      intro l h1 h2
      rw [List.foldl_cons]
      refine ih _ (fun y hy => h1 y (by simp [hy])) fun y hy => ?_
      rcases insS_mem hy with e | e
      · subst e; exact h1 _ (by simp)
      · exact h2 y e
  exact key xs [] h (by simp)
theorem tgt_of {n : Nat} {ls : List Nat} (h : Stp n ls) : ∃ U, nats U = steepV (dfL (nats ls)) ∧ Tgt (dfL (nats ls)) n U := by
  have hff := ff_of h
  have hlen := hff.len
  have hstp := hff.stp
  have hinv := hff.inv
  have hn6 := h.le
  have hD : ∀ y ∈ dfL (nats ls), y ≤ 6 := risL_le (dif_le _ (fun x hx => by
    obtain ⟨r, hr, rfl⟩ := List.mem_map.1 hx
    have := h.lt r hr
    omega) _ (Nat.le_refl _))
  have h12 : ∀ y ∈ steepV (dfL (nats ls)), y ≤ 12 := fun y hy => by
    have hy' := hy
    unfold steepV at hy'
    have := spF_le _ _ (fun z hz => hD z (spO_mem _ _ (Nat.le_refl _) z hz)) _ (Nat.le_refl _) y hy'
    have hl2 : (steepV (dfL (nats ls))).length = _ := spF_length _ _ _
    omega
  generalize steepV (dfL (nats ls)) = S at *
  have hz : nats (S.map Int.toNat) = S := by
    refine List.ext_getElem (by simp [nats]) fun k h1 h2 => ?_
    have := (hstp k (by omega)).1.1
    rw [List.getD_eq_getElem?_getD, List.getElem?_eq_getElem h2] at this
    simp only [Option.getD_some] at this
    simp only [nats, List.getElem_map]
    omega
  refine ⟨S.map Int.toNat, hz, by simpa using hlen, ⟨fun k hk => ?_, fun k hk h0 => ?_⟩, by rw [hz]; exact hinv⟩
  · have h1 := h12 (S.getD k 0) (getD_mem (by simpa using hk))
    have h2 : (nats (S.map Int.toNat)).getD k 0 = _ := nats_getD _ _
    rw [hz] at h2
    omega
  · obtain ⟨h1, h2⟩ := (hstp k (by simp at hk; omega)).2 h0
    have h3 := (hstp k (by simp at hk; omega)).1.1
    have e1 : (nats (S.map Int.toNat)).getD k 0 = _ := nats_getD _ _
    have e2 : (nats (S.map Int.toNat)).getD (k - 1) 0 = _ := nats_getD _ _
    rw [hz] at e1 e2
    omega
end Go.Proofs.YtellnklbkjajbaaDoor
