/- longest: what its closure's worlds are -/
import Derived.Test.YtlalfjkenkmojaaKe
import Derived.Maps.AppendAt
namespace Go.Proofs.Ytlalfjkenkmojaa
open Go.RowKit

/-- The slice does not lie in the blocks of S. -/
def OffB (v : Value) (S : Nat → Prop) : Prop := ∀ a n c, v = .slice (some a) n c → 0 < n → ¬ S a.block
theorem Sl.mod {S : Nat → Prop} {w w' : World} {v : Value} {cs : List Value} (h : Sl w v cs) (hm : Mod S w w') (ho : OffB v S) : Sl w' v cs := by
  obtain ⟨ao, cap, rfl, h1, h2, hx, h3⟩ := h
  refine ⟨ao, cap, rfl, h1, h2, hx, ?_⟩
  by_cases h0 : cs = []
  · exact .inl h0
  have hp : 0 < cs.length := List.length_pos_iff.2 h0
  rcases h3 with h3 | ⟨b, o, rfl, hlt, hc⟩
  · exact .inl h3
  · exact .inr ⟨b, o, rfl, Nat.lt_of_lt_of_le hlt hm.size, fun k x hx => by
      rw [World.cell?_of_block (a := ⟨b, o + k, none⟩) (hm.block b hlt (ho _ _ _ rfl hp))]; exact hc k x hx⟩
theorem Nats.mod {S : Nat → Prop} {w w' : World} {v : Value} {l : List Nat} (h : Nats w v l) (hm : Mod S w w') (ho : OffB v S) : Nats w' v l := ⟨h.1.mod hm ho, h.2⟩
theorem OffB.mono {v : Value} {S T : Nat → Prop} (h : OffB v S) (hs : ∀ k, T k → S k) : OffB v T := fun a n c e hp hT => h a n c e hp (hs _ hT)

/-- A box with one value. -/
def Box (t : TypeId) (w : World) (B : Nat) (v : Value) : Prop := w.heap[B]? = some (.cells #[v] t (0, 0))
theorem Box.lt {t : TypeId} {w : World} {B : Nat} {v : Value} (h : Box t w B v) : B < w.heap.size := lt_of_block h
theorem Box.cell {t : TypeId} {w : World} {B : Nat} {v : Value} (h : Box t w B v) : w.cell? ⟨B, 0, none⟩ = some v := by
  simp only [World.cell?, show w.heap[B]? = _ from h]; rfl
theorem Box.fr {t : TypeId} {w : World} {B : Nat} {v : Value} (h : Box t w B v) : w.frozen? ⟨B, 0, none⟩ = false := by
  simp [World.frozen?, show w.heap[B]? = _ from h]
theorem Box.mod {t : TypeId} {S : Nat → Prop} {w w' : World} {B : Nat} {v : Value} (h : Box t w B v) (hm : Mod S w w') (hB : ¬ S B) : Box t w' B v := (hm.block B h.lt hB).trans h
theorem Box.below {t : TypeId} {w w' : World} {B : Nat} {v : Value} (h : Box t w B v) (hb : Below w.heap.size w w') : Box t w' B v := (hb.block B h.lt).trans h
theorem Box.set {t : TypeId} {w : World} {B : Nat} {v : Value} (h : Box t w B v) (u : Value) : Box t (w.setCell ⟨B, 0, none⟩ u) B u := by
  unfold Box at h ⊢
  simp [World.setCell, Array.getElem?_modify, h]
theorem Box.other {t : TypeId} {w : World} {B C : Nat} {v : Value} (h : Box t w B v) (hB : B ≠ C) (k : Nat) (u : Value) : Box t (w.setCell ⟨C, k, none⟩ u) B v := (Below.heap_setCell _ _ _ _ hB).trans h
theorem Box.new (t : TypeId) (w : World) (v : Value) : Box t (w.alloc (.cells #[v] t)) w.heap.size v := heap_alloc_new w _
theorem Box.alloc {t : TypeId} {w : World} {B : Nat} {v : Value} (h : Box t w B v) (o : Obj) : Box t (w.alloc o) B v := (Below.heap_alloc w o B h.lt).trans h

theorem owns_block {w w' : World} {base : Nat} {e : TypeId} {v : Value} {n : Nat} {xs : List Value} (h : w.ownsRow base e 1 v n xs) (hb : ∀ g, v.ownBlock = some g → w'.heap[g]? = w.heap[g]?) : w'.ownsRow base e 1 v n xs := by
  obtain ⟨h1, h2⟩ := h
  refine ⟨h1, ?_⟩
  rcases h2 with h2 | ⟨g, cap, cur, hv, hg, hh, r⟩
  · exact .inl h2
  · refine .inr ⟨g, cap, cur, hv, hg, (hb g ?_).trans hh, r⟩
    rw [hv]; rfl
theorem owns_mod {S : Nat → Prop} {w w' : World} {base : Nat} {e : TypeId} {v : Value} {n : Nat} {xs : List Value} (h : w.ownsRow base e 1 v n xs) (hm : Mod S w w') (hS : ∀ g, v.ownBlock = some g → ¬ S g) : w'.ownsRow base e 1 v n xs :=
  owns_block h fun g hg => hm.block g (h.lt g hg).2 (hS g hg)
/-- The row without its last element. -/
theorem owns_pop {w : World} {base : Nat} {e : TypeId} {ao : Option Addr} {n c : Nat} {xs : List Value} {y : Value} (h : w.ownsRow base e 1 (.slice ao (n + 1) c) (n + 1) (xs ++ [y])) :
    w.ownsRow base e 1 (.slice ao n c) n xs := by
  obtain ⟨h1, h2⟩ := h
  have hl : xs.length = n := by simp at h1; omega
  rcases h2 with ⟨hv, h0⟩ | ⟨g, cap, cur, hv, hg, hh, hc, hm, hs, hx⟩
  · omega
  · simp only [Value.slice.injEq] at hv
    obtain ⟨rfl, _, rfl⟩ := hv
    refine ⟨by omega, .inr ⟨g, c, cur, rfl, hg, hh, by omega, hm, hs, ?_⟩⟩
    have e : cur.toList.take (n * 1) = (cur.toList.take ((n + 1) * 1)).take n := by rw [List.take_take]; congr 1; omega
    rw [e, hx, List.take_append_of_le_length (by omega), ← hl, List.take_length]
theorem owns_some {w : World} {base : Nat} {e : TypeId} {v : Value} {n : Nat} {xs : List Value} (h : w.ownsRow base e 1 v (n + 1) xs) : ∃ g c, v = .slice (some ⟨g, 0, none⟩) (n + 1) c ∧ base ≤ g ∧ n + 1 ≤ c := by
  rcases h.2 with ⟨_, h0⟩ | ⟨g, cap, cur, hv, hg, hh, hc, _⟩
  · omega
  · exact ⟨g, cap, hv, hg, hc⟩
theorem offB_own {v : Value} {S : Nat → Prop} {w : World} {base : Nat} {e : TypeId} {n : Nat} {xs : List Value} (h : w.ownsRow base e 1 v n xs) (hS : ∀ g, v.ownBlock = some g → ¬ S g) : OffB v S := by
  intro a m c hv _
  rcases h.2 with ⟨rfl, _⟩ | ⟨g, cap, cur, rfl, _⟩
  · cases hv
  · simp only [Value.slice.injEq, Option.some.injEq] at hv
    obtain ⟨rfl, _⟩ := hv
    exact hS g rfl

/-- The state of the search: the boxes of l and best, each with a row of its own. -/
structure LSt (w : World) (Bl Bb base : Nat) (vl vb : Value) (l best : List Nat) : Prop where
  cl : Box 22 w Bl vl
  cb : Box 22 w Bb vb
  ol : w.ownsRow base 3 1 vl l.length (ints (nats l))
  ob : w.ownsRow base 3 1 vb best.length (ints (nats best))
  apart : ∀ b, vl.ownBlock = some b → vb.ownBlock ≠ some b
/-- What the search may turn. -/
def LS (Bl Bb : Nat) (vl : Value) (k : Nat) : Prop := k = Bl ∨ k = Bb ∨ vl.ownBlock = some k
/-- The boxes that stay. -/
structure LEnv (w : World) (N : Nat) (pre : Array Value) (Bl Bb Bg Bm : Nat) : Prop where
  cm : Box 86 w Bm (.func (.func N) pre #[])
  cg : Box 54 w Bg (.func (.func 95) #[] #[.pointer (some ⟨Bl, 0, none⟩), .pointer (some ⟨Bb, 0, none⟩), .pointer (some ⟨Bg, 0, none⟩), .pointer (some ⟨Bm, 0, none⟩)])
theorem LEnv.mod {w w' : World} {N : Nat} {pre : Array Value} {Bl Bb Bg Bm : Nat} {S : Nat → Prop} (h : LEnv w N pre Bl Bb Bg Bm) (hm : Mod S w w') (h1 : ¬ S Bg) (h2 : ¬ S Bm) : LEnv w' N pre Bl Bb Bg Bm := ⟨h.cm.mod hm h2, h.cg.mod hm h1⟩
/-- The own block of a slice is that of another one, or new. -/
def Moved (v v' : Value) (n : Nat) : Prop := v'.ownBlock = v.ownBlock ∨ ∃ g, n ≤ g ∧ v'.ownBlock = some g
theorem Moved.refl (v : Value) (n : Nat) : Moved v v n := .inl rfl
theorem Moved.trans {a b c : Value} {n m : Nat} (h : Moved a b n) (k : Moved b c m) (hn : n ≤ m) : Moved a c n := by
  rcases k with k | ⟨g, hg, k⟩
  · rcases h with h | ⟨g, hg, h⟩
    · exact .inl (k.trans h)
    · exact .inr ⟨g, hg, k.trans h⟩
  · exact .inr ⟨g, by omega, k⟩
theorem LS.moved {Bl Bb : Nat} {v v' : Value} {n k : Nat} (h : Moved v v' n) (hk : LS Bl Bb v' k) : LS Bl Bb v k ∨ n ≤ k := by
  rcases hk with hk | hk | hk
  · exact .inl (.inl hk)
  · exact .inl (.inr (.inl hk))
  · rcases h with h | ⟨g, hg, h⟩
    · exact .inl (.inr (.inr (h ▸ hk)))
    · right
      rw [h] at hk
      obtain rfl := Option.some.inj hk
      exact hg
theorem offB_moved {w : World} {v vl vl' : Value} {l : List Nat} {Bl Bb : Nat} (h : Nats w v l) (ho : OffB v (LS Bl Bb vl)) (hm : Moved vl vl' w.heap.size) : OffB v (LS Bl Bb vl') := by
  intro a n c hv hp hk
  rcases LS.moved hm hk with h1 | h1
  · exact ho a n c hv hp h1
  · obtain ⟨⟨ao, cap, he, _, _, _, h3⟩, _⟩ := h
    rw [hv] at he
    simp only [Value.slice.injEq] at he
    obtain ⟨rfl, hn, _⟩ := he
    rcases h3 with h3 | ⟨b, o, e, hlt, _⟩
    · rw [h3] at hn; simp at hn; omega
    · obtain rfl := Option.some.inj e
      exact absurd hlt (by simp at h1; omega)
/-- What a call of the closure leaves. -/
def LPost (Bl Bb base : Nat) (l T : List Nat) (vl : Value) (w : World) (e : Ending) (w' : World) : Prop :=
  e = .returned (.tuple #[]) ∧ ∃ vl' vb', LSt w' Bl Bb base vl' vb' l T ∧ Moved vl vl' w.heap.size ∧ Mod (LS Bl Bb vl) w w'
theorem grown_mod {w w' : World} {row : Option Nat} (h : w.grownBy w' row) : Mod (fun k => row = some k) w w' := ⟨h.os, h.tape, h.output, h.size, fun i hi hn => h.block i hi fun e => hn e.symm⟩
theorem own_len {w : World} {base : Nat} {e : TypeId} {v : Value} {n m : Nat} {xs ys : List Value} (h : w.ownsRow base e 1 v n xs) (hn : n = m) (hx : xs = ys) : w.ownsRow base e 1 v m ys := by subst hn hx; exact h
/-- One number is put behind l. -/
theorem lst_push {wr w3 : World} {Bl Bb base : Nat} {vli vbi v3 : Value} {l bi : List Nat} {z : Nat} (hSt : LSt wr Bl Bb base vli vbi l bi) (hbl : Bl < base) (hbb : Bb < base) (hne : Bl ≠ Bb) {o : Obj}
    (hown : w3.ownsRow base 3 1 v3 (l.length + 1) (ints (nats l) ++ [.int .i64 z])) (hgrow : (wr.alloc o).grownBy w3 vli.ownBlock) (hat : v3.ownBlock = vli.ownBlock ∨ v3.ownBlock = some (wr.heap.size + 1)) :
    LSt (w3.setCell ⟨Bl, 0, none⟩ v3) Bl Bb base v3 vbi (l ++ [z]) bi ∧ Mod (LS Bl Bb vli) wr (w3.setCell ⟨Bl, 0, none⟩ v3) ∧ Moved vli v3 wr.heap.size ∧ Box 22 w3 Bl vli := by
  have hM := (Mod.refl (fun k => vli.ownBlock = some k) wr).alloc o
  have hM3 : Mod (fun k => vli.ownBlock = some k) wr w3 := hM.trans (grown_mod hgrow) fun x hx => .inl hx
  have nb : ∀ B, B < base → ¬ vli.ownBlock = some B := fun B hB e => by have := (hSt.ol.lt _ e).1; omega
  have b1 := hSt.cl.mod hM3 (nb _ hbl)
  have b2 := hSt.cb.mod hM3 (nb _ hbb)
  refine ⟨⟨b1.set v3, b2.other (fun e => hne e.symm) 0 v3, ownsRow_setCell_below (own_len hown (by simp) (by simp [ints, nats])) hbl v3, ownsRow_setCell_below (owns_mod hSt.ob hM3 fun g hg e => hSt.apart g e hg) hbl v3, ?_⟩, ?_, ?_, b1⟩
  · intro b hb
    rcases hat with h | h
    · exact hSt.apart b (h ▸ hb)
    · intro e
      rw [h] at hb
      have := (hSt.ob.lt _ e).2
      obtain rfl := Option.some.inj hb
      omega
  · exact (hM3.mono fun k hk => (.inr (.inr hk) : LS Bl Bb vli k)).setCell (.inl (.inl rfl)) v3
  · rcases hat with h | h
    · exact .inl h
    · exact .inr ⟨_, by omega, h⟩
/-- The last number is taken away. -/
theorem lst_pop {w : World} {Bl Bb base : Nat} {ao : Option Addr} {n c : Nat} {vb : Value} {l best : List Nat} {z : Nat} (h : LSt w Bl Bb base (.slice ao (n + 1) c) vb (l ++ [z]) best) (hn : n = l.length) (hbl : Bl < base) (hne : Bl ≠ Bb) :
    LSt (w.setCell ⟨Bl, 0, none⟩ (.slice ao n c)) Bl Bb base (.slice ao n c) vb l best := by
  subst hn
  have h1 : w.ownsRow base 3 1 (.slice ao (l.length + 1) c) (l.length + 1) (ints (nats l) ++ [.int .i64 z]) := own_len h.ol (by simp) (by simp [ints, nats])
  refine ⟨h.cl.set _, h.cb.other (fun e => hne e.symm) 0 _, ownsRow_setCell_below (owns_pop h1) hbl _, ownsRow_setCell_below h.ob hbl _, fun b hb => h.apart b ?_⟩
  cases ao with
  | none => simp [Value.ownBlock] at hb
  | some a => simpa [Value.ownBlock] using hb
end Go.Proofs.Ytlalfjkenkmojaa
