/- fill -/
import Derived.Test.YtpblbolflnjjnaaWc
import Derived.Deep.RegionLaw
namespace Go.Proofs.Ytpblbolflnjjnaa
open Go.RowKit

theorem hidIt {p : Prop} (h : p) : Hid p := h

/-- The blocks of a search. -/
structure Fb where
  bO : Nat
  bV : Nat
  bR : Nat
  bN : Nat
  bL : Nat
  rb : Nat
  gs : List Nat
  caps : List Nat
  vo : Value
  fv : Value
  w0 : World

def pt (b : Nat) : Value := .pointer (some ⟨b, 0, none⟩)
def Fb.caught (f : Fb) : Array Value := #[pt f.bO, pt f.bV, pt f.bR, pt f.bN, pt f.bL]
def Fb.rowVal (f : Fb) (rs : List (List Int)) (i : Nat) : Value := .slice (some ⟨f.gs.getD i 0, 0, none⟩) (rs.getD i []).length (f.caps.getD i 0)
def Fb.rowsVal (f : Fb) : Value := .slice (some ⟨f.rb, 0, none⟩) f.gs.length f.gs.length
def Fb.mem (f : Fb) (k : Nat) : Prop := k = f.bO ∨ k = f.bV ∨ k = f.bR ∨ k = f.bN ∨ k = f.bL ∨ k = f.rb ∨ k ∈ f.gs

/-- The search's own memory: rows as they stand, how often each number is left. -/
structure FillSt (f : Fb) (w : World) (rs : List (List Int)) (left : List Int) : Prop where
  hO : w.heap[f.bO]? = some (.cells #[f.vo] 22 (0, 0))
  hV : w.heap[f.bV]? = some (.cells #[f.fv] 83 (0, 0))
  hR : w.heap[f.bR]? = some (.cells #[f.rowsVal] 34 (0, 0))
  hN : w.heap[f.bN]? = some (.cells #[.func (.func 106) #[] f.caught] 116 (0, 0))
  hL : w.heap[f.bL]? = some (.cells (ints left).toArray 87 (0, 0))
  hll : left.length = 8
  hrb : w.heap[f.rb]? = some (.cells ((List.range f.gs.length).map (f.rowVal rs)).toArray 22 (0, 0))
  hgs : ∀ i, i < f.gs.length → ∃ sp : List Value, (rs.getD i []).length + sp.length = f.caps.getD i 0 ∧ w.heap[f.gs.getD i 0]? = some (.cells ((ints (rs.getD i [])) ++ sp).toArray 3 (0, 0))
  hrs : rs.length = f.gs.length
  hnd : f.gs.Nodup
  hne : f.bO ≠ f.rb
  hle : ∀ x ∈ left, 0 ≤ x ∧ x ≤ 8
  hnum : ∀ xs ∈ rs, ∀ x ∈ xs, 0 ≤ x ∧ x ≤ 8
  hbel : Below f.w0.heap.size f.w0 w
  hmem : ∀ k, f.mem k → f.w0.heap.size ≤ k

theorem FillSt.rows {f : Fb} {w : World} {rs : List (List Int)} {left : List Int} (h : FillSt f w rs left) (hn : f.gs.length ≤ 100) (hc : ∀ c ∈ f.caps, c ≤ 100) : IntRows w f.rowsVal rs := by
  refine ⟨(List.range f.gs.length).map (f.rowVal rs), ?_, by simp [h.hrs], ?_⟩
  · refine ⟨_, f.gs.length, ?_, by simp, by simp; omega, by unfold maxLen; omega, .inr ⟨f.rb, 0, rfl, lt_of_block h.hrb, ?_⟩⟩
    · simp [Fb.rowsVal]
    · intro k x hk
      simp only [World.cell?, h.hrb, Nat.zero_add]
      simpa using hk
  · intro i u xs hu hx
    have hi : i < f.gs.length := by
      have := (List.getElem?_eq_some_iff.1 hu).1
      simpa using this
    obtain ⟨sp, h1, h2⟩ := h.hgs i hi
    have e : rs.getD i [] = xs := by simp [List.getD, hx]
    have eg : f.gs.getD i 0 = f.gs[i] := by simp [List.getD, hi]
    rw [eg] at h2
    simp [hi, Fb.rowVal] at hu
    subst hu
    have e' : rs[i]?.getD [] = xs := by simp [hx]
    rw [e] at h1 h2
    rw [e']
    have hcap : f.caps.getD i 0 ≤ 100 := by
      by_cases c : i < f.caps.length
      · exact hc _ (by simp [List.getD, c])
      · rw [getD_over (by omega)]; omega
    refine ⟨⟨_, _, by rw [ints_length], by rw [ints_length]; simp [List.getD] at h1 ⊢; omega, by rw [ints_length]; omega, by unfold maxLen; simp [List.getD] at hcap ⊢; omega, .inr ⟨_, 0, rfl, ?_, ?_⟩⟩, ?_⟩
    · exact lt_of_block h2
    · intro k x hk
      have hlt := (List.getElem?_eq_some_iff.1 hk).1
      simp only [World.cell?, h2, Nat.zero_add]
      simp [List.getElem?_append_left hlt, hk]
    · intro x hx'
      have := h.hnum xs (List.mem_of_getElem? hx) x hx'
      unfold I64; omega

theorem FillSt.mod {f : Fb} {w w' : World} {rs : List (List Int)} {left : List Int} {S : Nat → Prop} (h : FillSt f w rs left) (hm : Mod S w w') (hd : ∀ k, S k → ¬ f.mem k) (hB : ∀ k, S k → f.w0.heap.size ≤ k) :
    FillSt f w' rs left := by
  have key : ∀ k o, f.mem k → w.heap[k]? = some o → w'.heap[k]? = some o := fun k o hk ho => (hm.block k (lt_of_block ho) fun hs => hd k hs hk).trans ho
  exact { hO := key _ _ (.inl rfl) h.hO, hV := key _ _ (.inr (.inl rfl)) h.hV, hR := key _ _ (.inr (.inr (.inl rfl))) h.hR, hN := key _ _ (.inr (.inr (.inr (.inl rfl)))) h.hN,
          hL := key _ _ (.inr (.inr (.inr (.inr (.inl rfl))))) h.hL, hll := h.hll, hrb := key _ _ (.inr (.inr (.inr (.inr (.inr (.inl rfl)))))) h.hrb,
          hgs := fun i hi => by
            obtain ⟨sp, h1, h2⟩ := h.hgs i hi
            exact ⟨sp, h1, key _ _ (.inr (.inr (.inr (.inr (.inr (.inr (by simp [List.getD, hi]))))))) h2⟩,
          hrs := h.hrs, hnd := h.hnd, hne := h.hne, hle := h.hle, hnum := h.hnum, hmem := h.hmem,
          hbel := h.hbel.trans (hm.below h.hbel.size hB) }

theorem FillSt.memlt {f : Fb} {w : World} {rs : List (List Int)} {left : List Int} (h : FillSt f w rs left) {k : Nat} (hk : f.mem k) : k < w.heap.size := by
  rcases hk with rfl | rfl | rfl | rfl | rfl | rfl | hk
  · exact lt_of_block h.hO
  · exact lt_of_block h.hV
  · exact lt_of_block h.hR
  · exact lt_of_block h.hN
  · exact lt_of_block h.hL
  · exact lt_of_block h.hrb
  · obtain ⟨i, hi, rfl⟩ := List.mem_iff_getElem.1 hk
    obtain ⟨sp, _, h2⟩ := h.hgs i hi
    have : f.gs.getD i 0 = f.gs[i] := by simp [List.getD, hi]
    exact this ▸ lt_of_block h2

theorem FillSt.rowCell {f : Fb} {w : World} {rs : List (List Int)} {left : List Int} (h : FillSt f w rs left) {i : Nat} (hi : i < f.gs.length) :
    w.cell? ⟨f.rb, i, none⟩ = some (f.rowVal rs i) ∧ w.frozen? ⟨f.rb, i, none⟩ = false := by
  simp [World.cell?, World.frozen?, h.hrb, hi]

/-- What the search hands to visit, in its order: the rows from row i on are still to be filled. -/
def srch (caps : List Nat) : Nat → Nat → List (List Int) → List Int → List (List (List Int))
  | 0, _, _, _ => []
  | fuel + 1, i, rs, left =>
    if i = caps.length then [rs]
    else if (rs.getD i []).length = caps.getD i 0 then srch caps fuel (i + 1) rs left
    else (List.range' (leastS rs i (rs.getD i []).length).toNat (9 - (leastS rs i (rs.getD i []).length).toNat)).flatMap fun n =>
      if left.getD (n - 1) 0 = 0 then [] else srch caps fuel i (rs.set i (rs.getD i [] ++ [(n : Int)])) (left.set (n - 1) (left.getD (n - 1) 0 - 1))

def nboxes (rs : List (List Int)) : Nat := (rs.map List.length).sum

/-- What a search's visit is good for. -/
structure Visit (f : Fb) (I : List (List (List Int)) → World → (Nat → Prop) → Prop) (fid : Nat) (fcap : Array Value) : Prop where
  fv : f.fv = .func (.func fid) #[] fcap
  enters : ∀ args w, (callFunc fid args).run Try.prog w = .ok (Next.enter fid args) w
  keeps : ∀ acc w w' fp, I acc w fp → (∀ k, fp k → w'.heap[k]? = w.heap[k]?) → w.heap.size ≤ w'.heap.size → I acc w' fp
  fits : ∀ acc w fp, I acc w fp → ∀ k, fp k → f.w0.heap.size ≤ k ∧ k < w.heap.size
  call : ∀ acc w fp rs left, FillSt f w rs left → I acc w fp → (∀ k, fp k → ¬ f.mem k) → acc.length < 16777216 →
    Calls Try.prog fid (#[f.rowsVal] ++ fcap) w fun e w' => e = .returned (.tuple #[]) ∧ ∃ fp', I (acc ++ [rs]) w' fp' ∧ Mod fp w w' ∧ ∀ k, fp' k → fp k ∨ w.heap.size ≤ k

/-- What a call of the search leaves. -/
def NextPost (f : Fb) (I : List (List (List Int)) → World → (Nat → Prop) → Prop) (rs : List (List Int)) (left : List Int) (acc : List (List (List Int))) (w : World) (fp : Nat → Prop) (e : Ending) (w' : World) : Prop :=
  e = .returned (.tuple #[]) ∧ ∃ fp', FillSt f w' rs left ∧ I acc w' fp' ∧ (∀ k, fp' k → ¬ f.mem k) ∧ Mod (fun k => f.mem k ∨ fp k) w w' ∧ ∀ k, fp' k → fp k ∨ w.heap.size ≤ k
end Go.Proofs.Ytpblbolflnjjnaa
