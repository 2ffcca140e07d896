/- first -/
import Derived.Test.YtlalfjkenkmojaaFg
namespace Go.Proofs.Ytlalfjkenkmojaa
open Go.RowKit

/-- The boxes of first. -/
abbrev fs5 (w : World) (fv : Value) (k n : Nat) : World := ((((w.alloc (.cells #[fv] 86)).alloc (.cells #[.int .i64 k] 3)).alloc (.cells #[.int .i64 n] 3)).alloc (.cells #[.slice none 0 0] 22)).alloc
  (.cells #[.func (.func 99) #[] #[.pointer (some ⟨w.heap.size + 1 + 1 + 1, 0, none⟩), .pointer (some ⟨w.heap.size + 1, 0, none⟩), .pointer (some ⟨w.heap.size + 1 + 1, 0, none⟩), .pointer (some ⟨w.heap.size, 0, none⟩), .pointer (some ⟨w.heap.size + 1 + 1 + 1 + 1, 0, none⟩)]] 31)
theorem fs5_c (w : World) (N : Nat) (pre : Array Value) (k n : Nat) : FEnv (fs5 w (.func (.func N) pre #[]) k n) N pre k n (w.heap.size + 1 + 1 + 1) (w.heap.size + 1) (w.heap.size + 1 + 1) w.heap.size (w.heap.size + 1 + 1 + 1 + 1) ∧
    FSt (fs5 w (.func (.func N) pre #[]) k n) (w.heap.size + 1 + 1 + 1) (w.heap.size + 1 + 1 + 1 + 1 + 1) (.slice none 0 0) [] ∧ Below w.heap.size w (fs5 w (.func (.func N) pre #[]) k n) ∧ (fs5 w (.func (.func N) pre #[]) k n).heap.size = w.heap.size + 1 + 1 + 1 + 1 + 1 := by
  have b0 := Box.new 86 w (.func (.func N) pre #[])
  have b1 := Box.new 3 (w.alloc (.cells #[.func (.func N) pre #[]] 86)) (.int .i64 k)
  have b2 := Box.new 3 ((w.alloc (.cells #[.func (.func N) pre #[]] 86)).alloc (.cells #[.int .i64 k] 3)) (.int .i64 n)
  have b3 := Box.new 22 (((w.alloc (.cells #[.func (.func N) pre #[]] 86)).alloc (.cells #[.int .i64 k] 3)).alloc (.cells #[.int .i64 n] 3)) (.slice none 0 0)
  have b4 := Box.new 31 ((((w.alloc (.cells #[.func (.func N) pre #[]] 86)).alloc (.cells #[.int .i64 k] 3)).alloc (.cells #[.int .i64 n] 3)).alloc (.cells #[.slice none 0 0] 22))
    (.func (.func 99) #[] #[.pointer (some ⟨w.heap.size + 1 + 1 + 1, 0, none⟩), .pointer (some ⟨w.heap.size + 1, 0, none⟩), .pointer (some ⟨w.heap.size + 1 + 1, 0, none⟩), .pointer (some ⟨w.heap.size, 0, none⟩), .pointer (some ⟨w.heap.size + 1 + 1 + 1 + 1, 0, none⟩)])
  simp only [World.size_alloc] at b0 b1 b2 b3 b4
  refine ⟨⟨(((b0.alloc _).alloc _).alloc _).alloc _, ((b1.alloc _).alloc _).alloc _, (b2.alloc _).alloc _, b4⟩, ⟨b3.alloc _, World.ownsRow_nil _ _ _ _⟩, ?_, by simp only [World.size_alloc]⟩
  exact (((((Below.refl _ w).alloc (Nat.le_refl _) _).alloc (by simp) _).alloc (by simp; omega) _).alloc (by simp; omega) _).alloc (by simp; omega) _

set_option maxHeartbeats 4000000 in
set_option maxRecDepth 100000 in
theorem first_any {N : Nat} {pre : Array Value} {f : List Nat → Nat → Bool} {D : List Nat → Nat → Prop} (hR : Rule N pre f D) (k n : Nat) (hk : k ≤ 1000) (hn : n ≤ 1000)
    (hD : ∀ l x, keepsL f l = true → l.length < k → (∀ z ∈ l, z < n) → x < n → D l x) (w : World) :
    Calls Try.prog 85 #[.func (.func N) pre #[], .int .i64 k, .int .i64 n] w fun e w' => ∃ v', e = .returned (.tuple #[v', .bool (outB (firstN f n k []))]) ∧
      w'.ownsRow w.heap.size 3 1 v' (outL (firstN f n k []) []).length (ints (nats (outL (firstN f n k []) []))) ∧ Below w.heap.size w w' := by
  obtain ⟨hE, hS, hB, hsz⟩ := fs5_c w N pre k n
  have HC9 := Lib.hid (fgrow_any hR k n hk hn hD (w.heap.size + 1 + 1 + 1) (w.heap.size + 1) (w.heap.size + 1 + 1) w.heap.size (w.heap.size + 1 + 1 + 1 + 1) (w.heap.size + 1 + 1 + 1 + 1 + 1) (by omega) (by omega) k [] (.slice none 0 0) (fs5 w (.func (.func N) pre #[]) k n)
    (by simp) rfl (by simp) (by rw [hsz]; exact Nat.le_refl _) hE hS)
  have c4g := hE.cg.cell
  have HB := Lib.hid hB
  have HSz := Lib.hid hsz
  clear hE hS hB hsz hR hD
  generalize firstN f n k [] = F at *
  go_enter Try.func85, Try.ntmps85
  go_wp2_with fail
  dsimp only [fs5] at *
  generalize ((((w.alloc (.cells #[.func (.func N) pre #[]] 86)).alloc (.cells #[.int .i64 k] 3)).alloc (.cells #[.int .i64 n] 3)).alloc (.cells #[.slice none 0 0] 22)).alloc
    (.cells #[.func (.func 99) #[] #[.pointer (some ⟨w.heap.size + 1 + 1 + 1, 0, none⟩), .pointer (some ⟨w.heap.size + 1, 0, none⟩), .pointer (some ⟨w.heap.size + 1 + 1, 0, none⟩), .pointer (some ⟨w.heap.size, 0, none⟩), .pointer (some ⟨w.heap.size + 1 + 1 + 1 + 1, 0, none⟩)]] 31) = w4 at *
  refine HC9.out.mono ?_
  rintro e w6 ⟨rfl, vl6, hs6, _, hm6⟩
  have hcell := hs6.cl.cell
  have hfr := hs6.cl.fr
  have hcell2 := (hs6.cl.set vl6).cell
  have HO : Hid ((w6.setCell ⟨w.heap.size + 1 + 1 + 1, 0, none⟩ vl6).ownsRow w.heap.size 3 1 vl6 (outL F []).length (ints (nats (outL F [])))) := Lib.hid (owns_mono (ownsRow_setCell_below hs6.ol (a := ⟨w.heap.size + 1 + 1 + 1, 0, none⟩) (by show w.heap.size + 1 + 1 + 1 < _; omega) vl6) (by omega))
  have HBw : Hid (Below w.heap.size w (w6.setCell ⟨w.heap.size + 1 + 1 + 1, 0, none⟩ vl6)) := Lib.hid (by
    refine (HB.out.trans (hm6.below HB.out.size fun k hk => ?_)).setCell (by show w.heap.size ≤ w.heap.size + 1 + 1 + 1; omega) _
    rcases hk with e | e
    · omega
    · simp [Value.ownBlock] at e)
  obtain ⟨a6, c6, rfl⟩ := owns_form hs6.ol
  clear hs6 hm6 HC9 c4g HB HSz
  go_wp2
  refine bodyPost_ret (v := .tuple #[.slice a6 (outL F []).length c6, .bool (outB F)]) (by simp [results, Try.f85, go_sem, hcell2]) rfl ⟨_, rfl, HO.out, HBw.out⟩
end Go.Proofs.Ytlalfjkenkmojaa
