/- Array: the program's, whole -/
import Derived.Test.YtopmdmafameknaaGd
import Derived.Test.YtopmdmafameknaaDw
namespace Go.Proofs.Ytopmdmafameknaa
open Go.RowKit

theorem arr1_tells (pm pb ps m a b c d : Nat) (w : World) (h : CapA w pm pb ps m a b c d) (h1 : 1 ≤ m) (hm : m ≤ 4) (hx : ∀ q, selN a b c d q < 65536) : Tells 83 #[.pointer (some ⟨pm, 0, none⟩), .pointer (some ⟨pb, 0, none⟩), .pointer (some ⟨ps, 0, none⟩)] (4 * m) (arrF m a b c d) w where
  enter := fun args w => by kernel_rfl
  call := fun i j w' hi hj hb => arr1_any i j pm pb ps m a b c d w' (h.below hb) h1 hm hx hi hj

def arrL (m a b c d : Nat) : List Nat := plantL (4 * m) (arrF m a b c d)
def ArrPost (w : World) (m a b c d : Int) (e : Ending) (w' : World) : Prop :=
  (if seqsI m a b c d = true then (if m ≤ 4 then ∃ v, e = .returned (.tuple #[v, .int .i64 0]) ∧ Nats w' v (arrL m.toNat a.toNat b.toNat c.toNat d.toNat) else e = .returned (.tuple #[.slice none 0 0, .int .i64 6])) else e = .returned (.tuple #[.slice none 0 0, .int .i64 2])) ∧ Below w.heap.size w w'

theorem four_cells (w : World) (o : Obj) (a b c d : Value) (t : TypeId) (h : (w.alloc o).heap.size = w.heap.size + 1) : ∀ k u, #[a, b, c, d][k]? = some u → ((w.alloc o).alloc (.cells #[a, b, c, d] t)).cell? ⟨w.heap.size + 1, k, none⟩ = some u := by
  intro k u hu
  rw [← h, World.cell?_alloc_new]; exact hu

set_option maxHeartbeats 1000000 in
set_option maxRecDepth 100000 in
theorem Array_any (m a b c d : Int) (w : World) :
    Calls Try.prog 44 #[.int .i64 m, arr4 a b c d] w (ArrPost w m a b c d) := by
  have HS := Lib.hid (fun w => sequences_any m a b c d w)
  cases hs : seqsI m a b c d with
  | false =>
    rw [hs] at HS
    have HSS := Lib.hid hs
    clear hs
    go_enter Try.func44, Try.ntmps44
    go_wp2_with fail
    refine (HS.out _).mono ?_
    rintro e w1 ⟨rfl, hb1⟩
    have HB := Lib.hid ((((Below.refl w.heap.size w).alloc (Nat.le_refl _) _).alloc (by simp) _).trans (hb1.mono (by simp; omega)))
    clear hb1
    go_wp2
    go_ret2
    unfold ArrPost
    rw [HSS.out]
    exact ⟨rfl, HB.out⟩
  | true =>
    rw [hs] at HS
    have HSS := Lib.hid hs
    obtain ⟨n, x0, x1, x2, x3, rfl, hn, rfl, rfl, rfl, rfl, hx⟩ := seqsI_nat hs
    have hsz : (w.alloc (.cells #[.int .i64 (n:Int)] 3)).heap.size = w.heap.size + 1 := by simp
    have kS := four_cells w (.cells #[.int .i64 (n:Int)] 3) (.int .i64 x0) (.int .i64 x1) (.int .i64 x2) (.int .i64 x3) 43 hsz
    have kM : ((w.alloc (.cells #[.int .i64 (n:Int)] 3)).alloc (.cells #[.int .i64 x0, .int .i64 x1, .int .i64 x2, .int .i64 x3] 43)).cell? ⟨w.heap.size, 0, none⟩ = some (.int .i64 n) := ck (by simp) ((Below.refl _ _).alloc (Nat.le_refl _) _)
    have HX := Lib.hid hx
    have hn1 : 1 ≤ n := by omega
    by_cases h4 : n ≤ 4
    · have hd16 : decide (16 < 4 * (n:Int)) = false := by simp; omega
      clear hs hn hx
      go_enter Try.func44, Try.ntmps44
      go_wp2_with fail
      refine (HS.out _).mono ?_
      rintro e w1 ⟨rfl, hb1⟩
      have HB := Lib.hid ((((Below.refl w.heap.size w).alloc (Nat.le_refl _) _).alloc (by simp) _).trans (hb1.mono (by simp; omega)))
      have cM := ck kM hb1
      have cS : ∀ k, k < 4 → w1.cell? ⟨w.heap.size + 1, k, none⟩ = some (.int .i64 (selN x0 x1 x2 x3 k : Nat)) := fun k hk => by
        match k, hk with
        | 0, _ => exact ck (kS 0 _ rfl) hb1
        | 1, _ => exact ck (kS 1 _ rfl) hb1
        | 2, _ => exact ck (kS 2 _ rfl) hb1
        | 3, _ => exact ck (kS 3 _ rfl) hb1
      have hB1 : Below w1.heap.size w1 (w1.alloc (.cells #[.int .i64 0, .int .i64 5, .int .i64 9, .int .i64 3] 43)) := (Below.refl _ _).alloc (Nat.le_refl _) _
      have hcap : CapA (w1.alloc (.cells #[.int .i64 0, .int .i64 5, .int .i64 9, .int .i64 3] 43)) w.heap.size w1.heap.size (w.heap.size + 1) n x0 x1 x2 x3 := by
        refine ⟨ck cM hB1, fun k hk => ?_, fun k hk => ck (cS k hk) hB1⟩
        rw [World.cell?_alloc_new]
        match k, hk with
        | 0, _ => rfl
        | 1, _ => rfl
        | 2, _ => rfl
        | 3, _ => rfl
      have HC := Lib.hid (plant_any (4 * n) 83 _ _ _ (by omega) (arr1_tells _ _ _ n x0 x1 x2 x3 _ hcap hn1 h4 (fun q => (HX.out q).2.2)))
      have hs1 : (w1.alloc (.cells #[.int .i64 0, .int .i64 5, .int .i64 9, .int .i64 3] 43)).heap.size = w1.heap.size + 1 := by simp
      rw [hs1] at HC
      have hmul : ((4 * n : Nat) : Int) = 4 * (n:Int) := by omega
      rw [hmul] at HC
      have HB1 := Lib.hid (HB.out.trans (hB1.mono HB.out.size))
      have hlt1 : w.heap.size < w1.heap.size := World.block_lt_of_cell? w1 _ cM
      have hlt2 : w.heap.size + 1 < w1.heap.size := World.block_lt_of_cell? w1 _ (cS 0 (by decide))
      have c0 := cS 0 (by decide)
      have c1 := cS 1 (by decide)
      have c2 := cS 2 (by decide)
      have c3 := cS 3 (by decide)
      clear cS hcap hB1 hb1 kM kS hs1 hmul hsz HX
      go_wp2_with fail
      refine HC.out.mono ?_
      rintro e w2 ⟨rfl, hB, hb2⟩
      have HB2 := Lib.hid (HB1.out.trans (hb2.mono (Nat.le_trans HB.out.size (by omega))))
      have HV := Lib.hid (plant_nats (show 4 * n ≤ 16 by omega) hB)
      clear hB hb2
      go_wp2
      go_ret2
      unfold ArrPost
      rw [if_pos HSS.out, if_pos (by omega), Int.toNat_natCast, Int.toNat_natCast, Int.toNat_natCast, Int.toNat_natCast, Int.toNat_natCast]
      exact ⟨⟨_, rfl, HV.out⟩, HB2.out⟩
    · have hd16 : decide (16 < 4 * (n:Int)) = true := by simp; omega
      have hn5 : 5 ≤ n := by omega
      have hn55 : n ≤ 5 := by omega
      clear hs hn hx kS
      go_enter Try.func44, Try.ntmps44
      go_wp2_with fail
      refine (HS.out _).mono ?_
      rintro e w1 ⟨rfl, hb1⟩
      have HB := Lib.hid ((((Below.refl w.heap.size w).alloc (Nat.le_refl _) _).alloc (by simp) _).trans (hb1.mono (by simp; omega)))
      have cM := ck kM hb1
      clear hb1 kM
      go_wp2
      go_ret2
      unfold ArrPost
      rw [if_pos HSS.out, if_neg (by omega)]
      exact ⟨rfl, HB.out⟩
end Go.Proofs.Ytopmdmafameknaa
