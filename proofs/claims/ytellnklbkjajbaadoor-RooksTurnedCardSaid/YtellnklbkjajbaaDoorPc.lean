/- permutations -/
import Derived.Test.YtellnklbkjajbaaDoorPb
import Derived.Test.YtellnklbkjajbaaDoorRk
namespace Go.Proofs.YtellnklbkjajbaaDoor
open Go.RowKit Go.Shelf
attribute [local go_sem] Oper.semAt_some

theorem perm_any (rs : List Nat) (A l Bp By Br Bc Pb B0 : Nat) (J Jx : List (Nat × List Nat) → World → Prop)
    (hJ : ∀ s X Y, J s X → Below B0 X Y → J s Y) (hJx : ∀ s X Y, Jx s X → Below B0 X Y → Jx s Y)
    (hY : ∀ pre x W1, J pre W1 → PreP rs.length A B0 x W1 → YieldAt Fence.wide (9 - 1) Tryd.prog l #[.slice (some ⟨x.1, 0, none⟩) rs.length rs.length] W1 fun e W' =>
      (e = .returned (.bool true) ∧ J (pre ++ [x]) W' ∧ Mod (· = A) W1 W') ∨ (e = .returned (.bool false) ∧ Jx (pre ++ [x]) W' ∧ Hi B0 W1 W'))
    (hA : A < B0) (hA1 : A ≠ 1) (hPb : B0 ≤ Pb) (hBc : B0 ≤ Bc) (hBcP : Bc ≠ Pb) (hrs : ∀ x ∈ rs, x < 256) (hn : rs.length ≤ 8) (h1 : 1 < B0) :
    ∀ (m i tk : Nat) (pre : List (Nat × List Nat)) (q : List Nat) (w : World), i + m = rs.length → PmEnv rs A l Bp By Br Bc Pb w → Holds w Pb rs.length q → J pre w → q.length = i → (∀ j ∈ q, j < 8) → B0 ≤ w.heap.size → tk < 256 →
      Calls Tryd.prog 79 #[.int .i64 i, .int .i64 tk, .pointer (some ⟨Bp, 0, none⟩), .pointer (some ⟨By, 0, none⟩), .pointer (some ⟨Br, 0, none⟩), .pointer (some ⟨Bc, 0, none⟩)] w (PmPost rs A Pb B0 J Jx pre tk q i w)
  | 0, i, tk, pre, q, w, hi, hE, hP, h0, hq, hq8, hB, _ => by
    obtain rfl : i = rs.length := by omega
    exact perm_leaf rs A l Bp By Br Bc Pb B0 tk J Jx pre q w hJ hJx hY hE hP h0 hq hq8 hA hPb hB
  | m + 1, i, tk, pre, q, w, hi, hE, hP, h0, hq, hq8, hB, htk =>
    perm_step rs A l Bp By Br Bc Pb B0 tk i m J Jx pre q w hJ hJx hE hP h0 hq hq8 hA hA1 hPb hB hi hBc hBcP hrs hn htk h1 fun tk pre q w hE hP h0 hq hq8 hB htk =>
      perm_any rs A l Bp By Br Bc Pb B0 J Jx hJ hJx hY hA hA1 hPb hBc hBcP hrs hn h1 m (i + 1) tk pre q w (by omega) hE hP h0 hq hq8 hB htk

theorem two_cell {A Pb : Nat} {w w' : World} (hm : Mod (Two A Pb) w w') {a : Addr} (h1 : a.block ≠ A) (h2 : a.block ≠ Pb) {v : Value} (h : w.cell? a = some v) : w'.cell? a = some v :=
  (World.cell?_of_block (hm.block a.block (World.block_lt_of_cell? w _ h) (by rintro (e | e); exact h1 e; exact h2 e))).trans h

theorem pmEnv_mk {rs : List Nat} {A l Bp By Br Bc Pb : Nat} {w : World} (hT : Tab w) (hA : A ≠ 1) (hPb1 : Pb ≠ 1)
    (hp : w.cell? ⟨Bp, 0, none⟩ = some (.slice (some ⟨Pb, 0, none⟩) rs.length rs.length)) (hy : w.cell? ⟨By, 0, none⟩ = some (.func (.yield l) #[] #[]))
    {ao : Option Addr} {cap : Nat} (hr : w.cell? ⟨Br, 0, none⟩ = some (.slice ao rs.length cap)) (hcap : rs.length ≤ cap)
    (hel : ∀ k, k < rs.length → ∃ b o, ao = some ⟨b, o, none⟩ ∧ b ≠ A ∧ b ≠ Pb ∧ w.cell? ⟨b, o + k, none⟩ = some (.int .i64 (rs.getD k 0 : Nat)))
    (hc : w.cell? ⟨Bc, 0, none⟩ = some (.func (.func 79) #[] #[.pointer (some ⟨Bp, 0, none⟩), .pointer (some ⟨By, 0, none⟩), .pointer (some ⟨Br, 0, none⟩), .pointer (some ⟨Bc, 0, none⟩)]))
    (h1 : Bp ≠ A ∧ Bp ≠ Pb) (h2 : By ≠ A ∧ By ≠ Pb) (h3 : Br ≠ A ∧ Br ≠ Pb) (h4 : Bc ≠ A ∧ Bc ≠ Pb) : PmEnv rs A l Bp By Br Bc Pb w := fun w' hm =>
  ⟨tab_block hT (hm.block 1 (tab_lt hT) (by rintro (e | e); exact hA e.symm; exact hPb1 e.symm)), two_cell hm h1.1 h1.2 hp, two_cell hm h2.1 h2.2 hy,
    ⟨ao, cap, two_cell hm h3.1 h3.2 hr, hcap, fun k hk => by obtain ⟨b, o, e, n1, n2, hcc⟩ := hel k hk; exact ⟨b, o, e, two_cell hm n1 n2 hcc⟩⟩, two_cell hm h4.1 h4.2 hc⟩

/-- The blocks that the iterator lays. -/
abbrev pm4 (w : World) (l n Br : Nat) : World := (((w.alloc (.cells #[.func (.yield l) #[] #[]] 27)).alloc (.cells (ints (List.replicate n 0)).toArray 3)).alloc (.cells #[.slice (some ⟨w.heap.size + 1, 0, none⟩) n n] 22)).alloc
  (.cells #[.func (.func 79) #[] #[.pointer (some ⟨w.heap.size + 1 + 1, 0, none⟩), .pointer (some ⟨w.heap.size, 0, none⟩), .pointer (some ⟨Br, 0, none⟩), .pointer (some ⟨w.heap.size + 1 + 1 + 1, 0, none⟩)]] 55)
theorem pm4_c (w : World) (l n Br : Nat) : (pm4 w l n Br).cell? ⟨w.heap.size, 0, none⟩ = some (.func (.yield l) #[] #[]) ∧ IBlk (pm4 w l n Br) (w.heap.size + 1) (nats (List.replicate n 0)) ∧
    (pm4 w l n Br).cell? ⟨w.heap.size + 1 + 1, 0, none⟩ = some (.slice (some ⟨w.heap.size + 1, 0, none⟩) n n) ∧
    (pm4 w l n Br).cell? ⟨w.heap.size + 1 + 1 + 1, 0, none⟩ = some (.func (.func 79) #[] #[.pointer (some ⟨w.heap.size + 1 + 1, 0, none⟩), .pointer (some ⟨w.heap.size, 0, none⟩), .pointer (some ⟨Br, 0, none⟩), .pointer (some ⟨w.heap.size + 1 + 1 + 1, 0, none⟩)]) ∧
    Below w.heap.size w (pm4 w l n Br) := by
  have h0 := cell_new w (.func (.yield l) #[] #[]) 27
  have h1 : IBlk ((w.alloc (.cells #[.func (.yield l) #[] #[]] 27)).alloc (.cells (ints (List.replicate n 0)).toArray 3)) (w.heap.size + 1) (nats (List.replicate n 0)) := by
    have := heap_alloc_new (w.alloc (.cells #[.func (.yield l) #[] #[]] 27)) (.cells (ints (List.replicate n 0)).toArray 3)
    rw [World.size_alloc] at this
    have e : nats (List.replicate n 0) = List.replicate n 0 := by simp [nats]
    unfold IBlk
    rw [e]
    exact this
  have h2 := cell_new ((w.alloc (.cells #[.func (.yield l) #[] #[]] 27)).alloc (.cells (ints (List.replicate n 0)).toArray 3)) (.slice (some ⟨w.heap.size + 1, 0, none⟩) n n) 22
  rw [World.size_alloc, World.size_alloc] at h2
  have h3 := cell_new (((w.alloc (.cells #[.func (.yield l) #[] #[]] 27)).alloc (.cells (ints (List.replicate n 0)).toArray 3)).alloc (.cells #[.slice (some ⟨w.heap.size + 1, 0, none⟩) n n] 22))
    (.func (.func 79) #[] #[.pointer (some ⟨w.heap.size + 1 + 1, 0, none⟩), .pointer (some ⟨w.heap.size, 0, none⟩), .pointer (some ⟨Br, 0, none⟩), .pointer (some ⟨w.heap.size + 1 + 1 + 1, 0, none⟩)]) 55
  rw [World.size_alloc, World.size_alloc, World.size_alloc] at h3
  exact ⟨alloc_cell _ (alloc_cell _ (alloc_cell _ h0)), (h1.alloc _).alloc _, alloc_cell _ h2, h3, ((((Below.refl _ w).alloc (Nat.le_refl _) _).alloc (by simp) _).alloc (by simp; omega) _).alloc (by simp; omega) _⟩

set_option maxRecDepth 100000 in
set_option maxHeartbeats 1000000 in
theorem perms_iter (rs : List Nat) (A Br : Nat) (w : World) (hA : A < w.heap.size) (hA1 : A ≠ 1) (hT : Tab w) {ao : Option Addr} {cap : Nat} (hr : w.cell? ⟨Br, 0, none⟩ = some (.slice ao rs.length cap)) (hcap : rs.length ≤ cap)
    (hel : ∀ k, k < rs.length → ∃ b o, ao = some ⟨b, o, none⟩ ∧ b ≠ A ∧ w.cell? ⟨b, o + k, none⟩ = some (.int .i64 (rs.getD k 0 : Nat))) (hBr : Br ≠ A) (hrs : ∀ x ∈ rs, x < 256) (hn : rs.length ≤ 8) :
    IterB 9 Tryd.prog 78 #[.pointer (some ⟨Br, 0, none⟩)] (fun x : Nat × List Nat => #[.slice (some ⟨x.1, 0, none⟩) rs.length rs.length]) (PreP rs.length A w.heap.size) A (fun xs => xs.map (·.2) = permsF rs 0 []) (fun _ => True) w := by
  intro l J Jx W hW hJ hJx hY h0
  have hTW : Tab W := tab_block hT (hW.block 1 (tab_lt hT))
  have hrW := ck hr hW
  have hsz := hW.size
  have hlt1 := tab_lt hT
  have hmk : ∀ X : World, (Instr.makeSlice 22 (.int .i64 (rs.length:Int)) (.int .i64 (rs.length:Int))).run Tryd.prog X = .ok (.slice (some ⟨X.heap.size, 0, none⟩) rs.length rs.length) (X.alloc (.cells (ints (List.replicate rs.length 0)).toArray 3)) :=
    run_make22 rs.length rs.length (Nat.le_refl _) (by omega)
  obtain ⟨p0, p1, p2, p3, pB⟩ := pm4_c W l rs.length Br
  have hE : PmEnv rs A l (W.heap.size + 1 + 1) W.heap.size Br (W.heap.size + 1 + 1 + 1) (W.heap.size + 1) (pm4 W l rs.length Br) := by
    have hbr := World.block_lt_of_cell? w _ hr
    refine pmEnv_mk (tab_block hTW (pB.block 1 (tab_lt hTW))) hA1 (by omega) p2 p0 (ao := ao) (cap := cap) (ck hrW pB) hcap (fun k hk => ?_) p3 (by omega) (by omega) ⟨hBr, by simp at hbr; omega⟩ (by omega)
    obtain ⟨b, o, e, hne, hc⟩ := hel k hk
    have := World.block_lt_of_cell? w _ hc
    exact ⟨b, o, e, hne, by simp at this; omega, ck (ck hc hW) pB⟩
  have hH : Holds (pm4 W l rs.length Br) (W.heap.size + 1) rs.length [] := ⟨List.replicate rs.length 0, by simpa using p1, by simp⟩
  have HC := Lib.hid (perm_any rs A l (W.heap.size + 1 + 1) W.heap.size Br (W.heap.size + 1 + 1 + 1) (W.heap.size + 1) W.heap.size J Jx hJ hJx
    (fun pre x W1 hj hp => hY pre x W1 hj ⟨hp.1, hp.2.1, hp.2.2.1, hp.2.2.2.1, by have := hp.2.2.2.2; omega⟩) (by omega) hA1 (by omega) (by omega) (by omega) hrs hn (by omega)
    rs.length 0 0 [] [] (pm4 W l rs.length Br) (by omega) hE hH (hJ _ _ _ h0 pB) rfl (by simp) pB.size (by omega))
  have hr1 := alloc_cell (.cells #[.func (.yield l) #[] #[]] 27) hrW
  have HB := Lib.hid pB
  clear hE hH p0 p1 p2 p3 pB hY h0 hel hTW hT hrW hr
  refine callsIn_wide.2 ?_
  go_enter Tryd.func78, Tryd.ntmps78
  go_wp2_with fail
  refine HC.out.mono ?_
  rintro e W2 (⟨rfl, hJ2, _, _⟩ | ⟨rfl, ⟨ys, hys⟩, _, _⟩)
  · have HJ2 := Lib.hid hJ2
    clear HC hJ2
    go_wp2_with fail
    go_end0
    exact ⟨⟨_, rfl⟩, .inl ⟨_, by simp [Function.comp_def], HJ2.out⟩⟩
  · have HJ2 := Lib.hid hys
    clear HC hys
    go_wp2_with fail
    go_end0
    exact ⟨⟨_, rfl⟩, .inr ⟨_, trivial, HJ2.out⟩⟩

set_option maxHeartbeats 400000 in
theorem permutations_any (ao : Option Addr) (n c : Nat) (w : World) :
    Calls Tryd.prog 52 #[.slice ao n c] w fun e w' => e = .returned (.func (.func 78) #[] #[.pointer (some ⟨w.heap.size, 0, none⟩)]) ∧ w' = w.alloc (.cells #[.slice ao n c] 22) := by
  go_enter Tryd.func52, Tryd.ntmps52
  go_wp2
  go_ret
  exact ⟨rfl, rfl⟩
end Go.Proofs.YtellnklbkjajbaaDoor
