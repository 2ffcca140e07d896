/- rows of numbers as ints; with -/
import Derived.Test.YtlnbodpdgebflaaMk
import Derived.ArgAppend
namespace Go.Proofs.Ytlnbodpdgebflaa
open Go.RowKit

theorem vint {a b : Int} (h : a = b) : Value.int .i64 a = Value.int .i64 b := by rw [h]
/-- A row of numbers, as ints. -/
def nats (hs : List Nat) : List Int := hs.map fun (x : Nat) => (x : Int)
theorem nats_length (hs : List Nat) : (nats hs).length = hs.length := by simp [nats]
theorem nats_getD (hs : List Nat) (k : Nat) : (nats hs).getD k 0 = ((hs.getD k 0 : Nat) : Int) := by
  simp only [nats, List.getD_eq_getElem?_getD, List.getElem?_map]
  cases hs[k]? <;> rfl
abbrev Nats (w : World) (v : Value) (hs : List Nat) : Prop := Ints w v (nats hs)
theorem Nats.open {w : World} {v : Value} {hs : List Nat} (h : Nats w v hs) :
    ∃ ao cap, v = .slice ao hs.length cap ∧ hs.length ≤ cap ∧ hs.length ≤ 17592186044416 ∧
      (∀ k, k < hs.length → ∃ b o, ao = some ⟨b, o, none⟩ ∧ w.cell? ⟨b, o + k, none⟩ = some (.int .i64 (hs.getD k 0 : Nat))) := by
  obtain ⟨ao, cap, hv, h1, h2, h3⟩ := Ints.open h
  rw [nats_length] at *
  exact ⟨ao, cap, hv, h1, h2, fun k hk => by obtain ⟨b, o, e, hc⟩ := h3 k hk; rw [nats_getD] at hc; exact ⟨b, o, e, hc⟩⟩
theorem natD_mem {hs : List Nat} {k : Nat} (h : k < hs.length) : hs.getD k 0 ∈ hs := by simp [h]
theorem nats_snoc (hs : List Nat) (x : Nat) : nats (hs ++ [x]) = nats hs ++ [(x:Int)] := by simp [nats]
theorem nats_take (hs : List Nat) (k : Nat) : (nats hs).take k = nats (hs.take k) := by simp [nats]
theorem nats_drop (hs : List Nat) (k : Nat) : (nats hs).drop k = nats (hs.drop k) := by simp [nats]
theorem natT_snoc (ys : List Nat) (k : Nat) (h : k < ys.length) : ys.take (k + 1) = ys.take k ++ [ys.getD k 0] := by
  rw [List.take_succ_eq_append_getElem h]; simp [h]
theorem nats_I64 {hs : List Nat} (h : ∀ x ∈ hs, x < 65536) : ∀ x ∈ nats hs, I64 x := by
  intro x hx
  obtain ⟨y, hy, rfl⟩ := List.mem_map.1 hx
  have := h y hy
  unfold I64; omega
theorem nats_inj {a b : List Nat} (h : nats a = nats b) : a = b := by
  induction a generalizing b with
  | nil => cases b with
    | nil => rfl
    | cons y b => simp [nats] at h
  | cons x a ih => cases b with
    | nil => simp [nats] at h
    | cons y b =>
      simp only [nats, List.map_cons, List.cons.injEq] at h
      rw [ih h.2]; congr 1; omega
theorem nats_mem {a : List Nat} {x : Nat} : (x : Int) ∈ nats a ↔ x ∈ a := by
  unfold nats
  rw [List.mem_map]
  constructor
  · rintro ⟨y, hy, e⟩; obtain rfl : y = x := by omega
    exact hy
  · intro h; exact ⟨x, h, rfl⟩
theorem eqB_nats (a b : List Nat) : eqB (nats a) (nats b) = decide (a = b) := by
  unfold eqB
  by_cases h : a = b
  · subst h; simp
  · rw [decide_eq_false h, decide_eq_false fun e => h (nats_inj e)]
theorem eqB_refl (a : List Int) : eqB a a = true := decide_eq_true rfl
theorem Nats.take {w : World} {ao : Option Addr} {n cap : Nat} {xs : List Nat} (h : Nats w (.slice ao n cap) xs) {k : Nat} (hk : k ≤ n) : Nats w (.slice ao k cap) (xs.take k) := by
  have := Ints.take h hk
  rwa [nats_take] at this
theorem Nats.nil (w : World) : Nats w (.slice none 0 0) [] := ⟨⟨none, 0, rfl, Nat.le_refl _, Nat.zero_le _, Nat.zero_le _, .inl rfl⟩, by simp [nats]⟩
/-- The rest of a row, as the walk writes it. -/
theorem Nats.drop {w : World} {ao : Option Addr} {n cap : Nat} {xs : List Nat} (h : Nats w (.slice ao n cap) xs) {k : Nat} (hk : k ≤ n) :
    Nats w (.slice (if cap = k then ao else ao.map (·.add k)) (n - k) (cap - k)) (xs.drop k) := by
  obtain ⟨⟨ao', cap', hv, h1, h2, h3, h4⟩, hb⟩ := h
  simp only [Value.slice.injEq] at hv
  obtain ⟨rfl, hn, rfl⟩ := hv
  rw [ints_length, nats_length] at *
  have hl : (xs.drop k).length = n - k := by rw [List.length_drop]; omega
  refine ⟨⟨_, cap - k, by rw [ints_length, nats_length, hl], by rw [ints_length, nats_length]; omega, by rw [ints_length, nats_length]; omega, by unfold maxLen at *; omega, ?_⟩, fun x hx => hb x (by rw [← nats_drop] at hx; exact List.mem_of_mem_drop hx)⟩
  by_cases hnk : n = k
  · left
    have : xs.drop k = [] := List.drop_eq_nil_of_le (by omega)
    rw [this]; rfl
  rcases h4 with h4 | ⟨b, o, rfl, hlt, hc⟩
  · left
    have : xs = [] := by simpa [ints, nats] using h4
    subst this; simp [ints, nats]
  · rw [if_neg (by omega)]
    refine .inr ⟨b, o + k, by simp [Addr.add_lit], hlt, fun j x hx => ?_⟩
    rw [Nat.add_assoc]
    refine hc (k + j) x ?_
    simp only [ints, nats, List.map_drop, List.getElem?_drop] at hx ⊢
    exact hx


theorem alloc_cell' {w : World} {a : Addr} {v : Value} (o : Obj) (h : w.cell? a = some v) : (w.alloc o).cell? a = some v := (World.cell?_alloc_lt w o a (World.block_lt_of_cell? w _ h)).trans h
theorem Nats.cells {w : World} {ao : Option Addr} {n cap : Nat} {l : List Nat} (h : Nats w (.slice ao n cap) l) : n = l.length ∧ (ao = none → l = []) ∧ ∀ b, ao = some b → ∀ j u, (ints (nats l))[j]? = some u → w.cell? (b.add j) = some u := by
  obtain ⟨ao', cap', e, h1, h2, hx⟩ := h.open
  simp only [Value.slice.injEq] at e
  obtain ⟨rfl, rfl, rfl⟩ := e
  refine ⟨rfl, fun e => ?_, fun b e j u hj => ?_⟩
  · cases l with
    | nil => rfl
    | cons x l =>
      obtain ⟨b, o, e', _⟩ := hx 0 (by simp)
      rw [e] at e'; cases e'
  · have hlt : j < l.length := by have := (List.getElem?_eq_some_iff.1 hj).1; rwa [ints_length, nats_length] at this
    obtain ⟨b', o', e', hc⟩ := hx j hlt
    rw [e] at e'
    obtain rfl := Option.some.inj e'
    rw [Addr.add_lit, hc, ← hj]
    simp [ints, nats, hlt]

set_option maxHeartbeats 400000 in
theorem with_any (v : Value) (l : List Nat) (s : Nat) (w : World) (h : Nats w v l) (hl : l.length ≤ 40) :
    Calls Try.prog 73 #[v, .int .i64 s] w fun e w' => ∃ v', e = .returned v' ∧ w'.ownsRow w.heap.size 3 1 v' (l.length + 1) (ints (nats (l ++ [s]))) ∧ Below w.heap.size w w' := by
  obtain ⟨ao, cap, rfl, hcap, _, _⟩ := Nats.open h
  obtain ⟨_, hno, hce⟩ := Nats.cells h
  have HC := Lib.hid hce
  have HN := Lib.hid hno
  have HE : Hid (ints (nats (l ++ [s])) = ints (nats l) ++ [.int .i64 (s : Nat)]) := Lib.hid (by simp [ints, nats])
  obtain ⟨i0, hi, hz0, hz1, hz2⟩ := info_parts Try.info3
  clear h hno hce
  have h1 : (0:Int) ≤ (l.length:Int) := by omega
  have h2 : (l.length:Int) ≤ (cap:Int) := by omega
  have hnone : Hid (ao = none → l.length = 0 ∧ l.length = 0) := Lib.hid (fun e => by rw [HN.out e]; exact ⟨rfl, rfl⟩)
  have HLn : Hid ((ints (nats l)).length = l.length * 1) := Lib.hid (by rw [ints_length, nats_length, Nat.mul_one])
  generalize l.length = n at *
  go_enter Try.func73, Try.ntmps73
  go_wp2_with (at_builtin; refine wpList_append_grows _ rfl _ _ 24 rfl 3 i0 (.int .i64 0) 1 8 Try.underlying24 hi hz0 hz1 hz2 rfl (by decide) _ _ _ (ints (nats l)) rfl hnone.out HLn.out (fun b0 hb0 j u hu => alloc_cell' _ (HC.out b0 hb0 j u hu)) ⟨w.heap.size, 0, none⟩ 1 1 [.int .i64 (s : Nat)] rfl rfl (newOne _ _ _) (oneInt _) (by omega) (by unfold maxLen; omega) (by omega) ?_; intro v' w1 hown hg)
  have HO : Hid (w1.ownsRow w.heap.size 3 1 v' (n + 1) (ints (nats (l ++ [s])))) := Lib.hid (by rw [HE.out]; exact owns_mono hown (by simp))
  have HB : Hid (Below w.heap.size w w1) := Lib.hid (((Below.refl _ _).alloc (Nat.le_refl _) _).grown hg (by simp) fun k e => by cases e)
  clear hown hg
  obtain ⟨a5, c5, rfl⟩ := owns_form HO.out
  go_ret
  exact ⟨_, rfl, HO.out, HB.out⟩
end Go.Proofs.Ytlnbodpdgebflaa
