/- a map of polynomials by pairs of numbers; what a measure holds; the program's r; the program's p; R and P of the program -/
import Derived.Test.YtlnbodpdgebflaaV2
import Derived.Test.YtlnbodpdgebflaaTe
import Derived.Test.YtlnbodpdgebflaaMk
import Derived.Test.YtlnbodpdgebflaaOe
import Derived.Test.YtlnbodpdgebflaaTk
namespace Go.Proofs.Ytlnbodpdgebflaa
open Go.RowKit
open Go.Maps (Keyed)

theorem u103 : Try.prog.underlying 103 = some (.map 108 106) := by kernel_rfl
theorem row108 : (108 : TypeId) < Try.prog.types.size := of_decide_eq_true (by kernel_rfl)
theorem wide108 : (match Try.prog.underlying 108 with | some (.array _ _) | some (.struct _) => true | _ => false) = true := by kernel_rfl
set_option maxRecDepth 100000 in
theorem key108 : Keyed Try.prog 108 := Keyed.of_law (deep_law_laid laid (m := 2) (by omega) row108 (by kernel_rfl) wide108)
/-- The pair as a value, and as a key. -/
def pv (i j : Nat) : Value := .agg #[.int .i64 (i : Nat), .int .i64 (j : Nat)]
def Kp (i j : Nat) (l : Lit) : Prop := keyOf Try.prog 108 (pv i j) = some l
theorem Kp.one {i j : Nat} {l m : Lit} (h : Kp i j l) (k : Kp i j m) : l = m := by unfold Kp at h k; rw [h] at k; exact Option.some.inj k
theorem Kp.ne {i j a b : Nat} {l m : Lit} (h : Kp i j l) (k : Kp a b m) (e : ¬ (i = a ∧ j = b)) : l ≠ m := by
  rintro rfl
  have h2 := key108.inj h k
  unfold pv at h2
  simp only [Value.agg.injEq] at h2
  have h3 := congrArg Array.toList h2
  simp only [List.cons.injEq, Value.int.injEq, true_and, and_true] at h3
  exact e ⟨by omega, by omega⟩
set_option maxRecDepth 100000 in
theorem kp_chk : ((List.range 48).all fun i => (List.range 48).all fun j => (keyOf Try.prog 108 (pv i j)).isSome) = true := by decide +kernel
theorem kp_ex {i j : Nat} (hi : i < 48) (hj : j < 48) : ∃ l, Kp i j l :=
  Option.isSome_iff_exists.1 (List.all_eq_true.1 (List.all_eq_true.1 kp_chk i (List.mem_range.2 hi)) j (List.mem_range.2 hj))
/-- An element reads as its own value. -/
def hv : Value → Option (DataW Value × List MemPlace) := fun v => some (.held v, [])
def zpoly : DataW Value := .held (.slice none 0 0)
/-- What the map knows is right. -/
def Vals (w : World) (D : DataW Value) (F : Nat → Nat → List Int) : Prop := Maps.IsMap D ∧ ∀ i j l, Kp i j l → Maps.has D l = true → ∃ a c, D.atKey l zpoly = .held (.slice a (F i j).length c) ∧ Ints w (.slice a (F i j).length c) (F i j)
theorem Vals.start (w : World) (F : Nat → Nat → List Int) : Vals w (.map []) F := ⟨Maps.isMap_empty, fun i j l _ h => by simp [Maps.has] at h⟩
theorem Vals.put {w : World} {D : DataW Value} {F : Nat → Nat → List Int} {i j : Nat} {l : Lit} {a : Option Addr} {c : Nat} (h : Vals w D F) (hl : Kp i j l) (hi : Ints w (.slice a (F i j).length c) (F i j)) :
    Vals w (D.put l (.held (.slice a (F i j).length c))) F := by
  refine ⟨h.1.put _ _, fun p q m hm hh => ?_⟩
  by_cases e : p = i ∧ q = j
  · obtain ⟨rfl, rfl⟩ := e
    obtain rfl := hl.one hm
    exact ⟨a, c, Maps.atKey_put_same h.1 (key108.key hl) _ _, hi⟩
  · have hne := hm.ne hl e
    rw [Maps.has_put_other hne] at hh
    rw [Maps.atKey_put_other hne]
    exact h.2 p q m hm hh
/-- Two maps' blocks may change. -/
structure Kb (b1 b2 : Nat) (w w' : World) : Prop where
  os : w'.os = w.os
  tape : w'.tape = w.tape
  output : w'.output = w.output
  size : w.heap.size ≤ w'.heap.size
  block : ∀ k, k < w.heap.size → k ≠ b1 → k ≠ b2 → w'.heap[k]? = w.heap[k]?
theorem Kb.refl (b1 b2 : Nat) (w : World) : Kb b1 b2 w w := ⟨rfl, rfl, rfl, Nat.le_refl _, fun _ _ _ _ => rfl⟩
theorem Kb.trans {b1 b2 : Nat} {a b c : World} (h : Kb b1 b2 a b) (k : Kb b1 b2 b c) : Kb b1 b2 a c :=
  ⟨k.os.trans h.os, k.tape.trans h.tape, k.output.trans h.output, Nat.le_trans h.size k.size, fun x hx h1 h2 => (k.block x (Nat.lt_of_lt_of_le hx h.size) h1 h2).trans (h.block x hx h1 h2)⟩
theorem Kb.of {b1 b2 : Nat} {w w' : World} (h : Below w.heap.size w w') : Kb b1 b2 w w' := ⟨h.os, h.tape, h.output, h.size, fun k hk _ _ => h.block k hk⟩
theorem Kb.grown1 {b1 b2 : Nat} {w w' : World} (h : w.grownBy w' (some b1)) : Kb b1 b2 w w' := ⟨h.os, h.tape, h.output, h.size, fun k hk h1 _ => h.block k hk (by simpa using h1)⟩
theorem Kb.grown2 {b1 b2 : Nat} {w w' : World} (h : w.grownBy w' (some b2)) : Kb b1 b2 w w' := ⟨h.os, h.tape, h.output, h.size, fun k hk _ h2 => h.block k hk (by simpa using h2)⟩
theorem Kb.below {b1 b2 B : Nat} {w w' : World} (h : Kb b1 b2 w w') (h1 : B ≤ b1) (h2 : B ≤ b2) (hB : B ≤ w.heap.size) : Below B w w' := ⟨h.os, h.tape, h.output, h.size, fun k hk => h.block k (by omega) (by omega) (by omega)⟩
/-- A map's block. -/
def IsM (w : World) (b : Nat) : Prop := ∃ es c, w.heap[b]? = some (.map es c)
theorem World.ownsMap.isM {w : World} {R : Value → Option (DataW Value × List MemPlace)} {b n : Nat} {D : DataW Value} (h : w.ownsMap Try.prog 108 R b n D) : IsM w b := by
  obtain ⟨es, c, h, _⟩ := h
  exact ⟨es, c, h⟩
theorem IsM.ne {w : World} {b : Nat} (h : IsM w b) {a : Addr} {v : Value} (hc : w.cell? a = some v) : a.block ≠ b := by
  rintro rfl
  obtain ⟨es, c, h⟩ := h
  simp [World.cell?, h] at hc
theorem kc {b1 b2 : Nat} {w w' : World} {a : Addr} {v : Value} (h : w.cell? a = some v) (hk : Kb b1 b2 w w') (m1 : IsM w b1) (m2 : IsM w b2) : w'.cell? a = some v :=
  (World.cell?_of_block (hk.block _ (World.block_lt_of_cell? w _ h) (m1.ne h) (m2.ne h))).trans h
theorem Ints.kb {b1 b2 : Nat} {w w' : World} {v : Value} {l : List Int} (h : Ints w v l) (hk : Kb b1 b2 w w') (m1 : IsM w b1) (m2 : IsM w b2) : Ints w' v l := by
  obtain ⟨⟨ao, cap, rfl, h1, h2, hm, h3⟩, h4⟩ := h
  refine ⟨⟨ao, cap, rfl, h1, h2, hm, ?_⟩, h4⟩
  rcases h3 with h3 | ⟨b, o, rfl, hlt, hc⟩
  · exact .inl h3
  · exact .inr ⟨b, o, rfl, Nat.lt_of_lt_of_le hlt hk.size, fun k x hx => kc (hc k x hx) hk m1 m2⟩
theorem Vals.kb {b1 b2 : Nat} {w w' : World} {D : DataW Value} {F : Nat → Nat → List Int} (h : Vals w D F) (hk : Kb b1 b2 w w') (m1 : IsM w b1) (m2 : IsM w b2) : Vals w' D F :=
  ⟨h.1, fun i j l hl hh => let ⟨a, c, e, hi⟩ := h.2 i j l hl hh; ⟨a, c, e, hi.kb hk m1 m2⟩⟩
/-- A measure in block mb: its table is older than W0's end, its maps are right. -/
structure Msr (W0 w : World) (g T0 mb b1 b2 n1 n2 : Nat) (D1 D2 : DataW Value) : Prop where
  tab : TableAt W0 T0 g
  bel : Below W0.heap.size W0 w
  box : Blk 105 w mb #[.pointer (some ⟨T0, 0, none⟩), .map (some b1), .map (some b2)]
  m1 : w.ownsMap Try.prog 108 hv b1 n1 D1
  m2 : w.ownsMap Try.prog 108 hv b2 n2 D2
  v1 : Vals w D1 (dR g)
  v2 : Vals w D2 (dP g)
  g1 : W0.heap.size ≤ b1
  g2 : W0.heap.size ≤ b2
  ne : b1 ≠ b2
section
variable {W0 w w' : World} {g T0 mb b1 b2 n1 n2 : Nat} {D1 D2 : DataW Value} (h : Msr W0 w g T0 mb b1 b2 n1 n2 D1 D2)
include h
theorem Msr.tabw : TableAt w T0 g := h.tab.below h.bel
theorem Msr.i1 : IsM w b1 := World.ownsMap.isM h.m1
theorem Msr.i2 : IsM w b2 := World.ownsMap.isM h.m2
theorem Msr.belK (hk : Kb b1 b2 w w') : Below W0.heap.size W0 w' := h.bel.trans (hk.below h.g1 h.g2 h.bel.size)
theorem Msr.boxK (hk : Kb b1 b2 w w') : Blk 105 w' mb #[.pointer (some ⟨T0, 0, none⟩), .map (some b1), .map (some b2)] :=
  (hk.block mb h.box.lt (fun e => by have h1 := h.i1.ne (h.box.cell 0); exact h1 e) (fun e => by have h1 := h.i2.ne (h.box.cell 0); exact h1 e)).trans h.box
theorem Msr.below (hb : Below w.heap.size w w') : Msr W0 w' g T0 mb b1 b2 n1 n2 D1 D2 :=
  ⟨h.tab, h.belK (.of hb), h.boxK (.of hb), h.m1.kept (grown_of_below hb) (by simp), h.m2.kept (grown_of_below hb) (by simp), h.v1.kb (.of hb) h.i1 h.i2, h.v2.kb (.of hb) h.i1 h.i2, h.g1, h.g2, h.ne⟩
theorem Msr.put1 {i j : Nat} {l : Lit} {a : Option Addr} {c : Nat} (hm : w'.ownsMap Try.prog 108 hv b1 (n1 + 1) (D1.put l (.held (.slice a (dR g i j).length c)))) (hg : w.grownBy w' (some b1)) (hl : Kp i j l) (hi : Ints w (.slice a (dR g i j).length c) (dR g i j)) :
    Msr W0 w' g T0 mb b1 b2 (n1 + 1) n2 (D1.put l (.held (.slice a (dR g i j).length c))) D2 :=
  have hk : Kb b1 b2 w w' := .grown1 hg
  ⟨h.tab, h.belK hk, h.boxK hk, hm, h.m2.kept hg (by simpa using h.ne.symm), (h.v1.kb hk h.i1 h.i2).put hl (hi.kb hk h.i1 h.i2), h.v2.kb hk h.i1 h.i2, h.g1, h.g2, h.ne⟩
theorem Msr.put2 {i j : Nat} {l : Lit} {a : Option Addr} {c : Nat} (hm : w'.ownsMap Try.prog 108 hv b2 (n2 + 1) (D2.put l (.held (.slice a (dP g i j).length c)))) (hg : w.grownBy w' (some b2)) (hl : Kp i j l) (hi : Ints w (.slice a (dP g i j).length c) (dP g i j)) :
    Msr W0 w' g T0 mb b1 b2 n1 (n2 + 1) D1 (D2.put l (.held (.slice a (dP g i j).length c))) :=
  have hk : Kb b1 b2 w w' := .grown2 hg
  ⟨h.tab, h.belK hk, h.boxK hk, h.m1.kept hg (by simpa using h.ne), hm, h.v1.kb hk h.i1 h.i2, (h.v2.kb hk h.i1 h.i2).put hl (hi.kb hk h.i1 h.i2), h.g1, h.g2, h.ne⟩
theorem Msr.mono {m1' m2' : Nat} (h1 : n1 ≤ m1') (h2 : n2 ≤ m2') : Msr W0 w g T0 mb b1 b2 m1' m2' D1 D2 :=
  ⟨h.tab, h.bel, h.box, h.m1.mono h1, h.m2.mono h2, h.v1, h.v2, h.g1, h.g2, h.ne⟩
end
theorem zero106 (w : World) : (zeroValue 106).run Try.prog w = .ok (.slice none 0 0) w := by kernel_rfl
section
variable (w : World) {ops : Array Oper} {rest : List Oper} {o : Oper} {a : Act} {Q : Exit → Act → World → Prop}
/-- The lookup finds it, or finds nothing. -/
theorem wpl_hit (hg : o.guard = none) (m x : Operand) (hop : o.op = Op.lookup 103 m x true) (b n : Nat) (D : DataW Value) (hm : a.eval m = .map (some b)) (hown : w.ownsMap Try.prog 108 hv b n D)
    (i j : Nat) (kl : Lit) (hx : a.eval x = pv i j) (hkey : Kp i j kl) (v : Value) (hh : Maps.has D kl = true) (ha : D.atKey kl zpoly = .held v)
    (hK : wpList Try.prog ops Q rest (a.put o.dst (.tuple #[v, .bool true])) w) : wpList Try.prog ops Q (o :: rest) a w := by
  refine wpList_lookup_own_ok w hg m x 103 hop 108 106 key108 u103 hv (zero106 w) zpoly [] rfl b n D hm hown _ kl hx hkey (fun v' ps hv' => ?_)
  unfold hv at hv'
  rw [ha] at hv'
  obtain rfl : v' = v := by simpa using congrArg (fun z => z.map (·.1)) hv'
  rw [hh]; exact hK
theorem wpl_miss (hg : o.guard = none) (m x : Operand) (hop : o.op = Op.lookup 103 m x true) (b n : Nat) (D : DataW Value) (hm : a.eval m = .map (some b)) (hown : w.ownsMap Try.prog 108 hv b n D)
    (i j : Nat) (kl : Lit) (hx : a.eval x = pv i j) (hkey : Kp i j kl) (hh : Maps.has D kl = false)
    (hK : wpList Try.prog ops Q rest (a.put o.dst (.tuple #[.slice none 0 0, .bool false])) w) : wpList Try.prog ops Q (o :: rest) a w := by
  refine wpList_lookup_own_ok w hg m x 103 hop 108 106 key108 u103 hv (zero106 w) zpoly [] rfl b n D hm hown _ kl hx hkey (fun v' ps hv' => ?_)
  unfold hv at hv'
  rw [Maps.atKey_of_not_has hh] at hv'
  obtain rfl : v' = .slice none 0 0 := by simpa [zpoly] using congrArg (fun z => z.map (·.1)) hv'
  rw [hh]; exact hK
theorem wpl_put (hg : o.guard = none) (m x v : Operand) (hop : o.op = Op.mapUpdate 103 m x v) (b n : Nat) (D : DataW Value) (hm : a.eval m = .map (some b)) (hown : w.ownsMap Try.prog 108 hv b n D) (hn : n < maxLen)
    (i j : Nat) (val : Value) (kl : Lit) (hx : a.eval x = pv i j) (hv' : a.eval v = val) (hkey : Kp i j kl)
    (hK : ∀ w', w'.ownsMap Try.prog 108 hv b (n + 1) (D.put kl (.held val)) → w.grownBy w' (some b) → wpList Try.prog ops Q rest (a.put o.dst undef) w') : wpList Try.prog ops Q (o :: rest) a w :=
  wpList_mapUpdate_own w hg m x v 103 hop 108 106 key108 u103 hv b n D hm hown hn _ val kl hx hv' hkey (.held val) [] rfl hK
end
end Go.Proofs.Ytlnbodpdgebflaa

namespace Go.Proofs.Ytlnbodpdgebflaa
open Go.RowKit

theorem ints_m1 (w : World) : Ints (w.alloc (.cells #[.int .i64 (-1), .int .i64 1] 3)) (.slice (some ⟨w.heap.size, 0, none⟩) 2 2) [-1, 1] := ints_lit [-1, 1] w (by simp) (by intro x hx; simp at hx; unfold I64; omega)
theorem ints_01 (w : World) : Ints (w.alloc (.cells #[.int .i64 0, .int .i64 1] 3)) (.slice (some ⟨w.heap.size, 0, none⟩) 2 2) [0, 1] := ints_lit [0, 1] w (by simp) (by intro x hx; simp at hx; unfold I64; omega)
theorem bd_m1 : Bnd 1000000 [-1, 1] := by intro c hc; simp at hc; omega
theorem bd_01 : Bnd 1000000 [0, 1] := by intro c hc; simp at hc; omega
theorem Msr.at {W0 w : World} {g T0 mb b1 b2 n1 n2 : Nat} {D1 D2 : DataW Value} (h : Msr W0 w g T0 mb b1 b2 n1 n2 D1 D2) :
    w.cell? ⟨mb, 0, none⟩ = some (.pointer (some ⟨T0, 0, none⟩)) ∧ w.cell? ⟨mb, 1, none⟩ = some (.map (some b1)) ∧ w.cell? ⟨mb, 2, none⟩ = some (.map (some b2)) :=
  ⟨h.box.cell 0, h.box.cell 1, h.box.cell 2⟩

theorem bl1' {W W' : World} {o : Obj} (h : Below (W.alloc o).heap.size (W.alloc o) W') : Below W.heap.size W W' := (a1 W o).trans (h.mono (by simp))
theorem tms2_ok {f h : List Int} (hf : f.length ≤ 13) (bf : Bnd 8 f) (hh : h.length = 2) (bh : Bnd 1 h) : (tmsL f h).length ≤ 130 ∧ Bnd 100000000000000 (tmsL f h) := by
  refine ⟨Nat.le_trans (tms_len hf (Nat.le_of_eq hh)) (by omega), (tms_bd bf bh).mono ?_⟩
  omega

def RPost (W0 w : World) (g T0 mb b1 b2 n1 n2 B u x : Nat) (D2 : DataW Value) (e : Ending) (w' : World) : Prop :=
  ∃ a c n1' D1', e = .returned (.slice a (dR g u x).length c) ∧ Ints w' (.slice a (dR g u x).length c) (dR g u x) ∧ Msr W0 w' g T0 mb b1 b2 n1' n2 D1' D2 ∧ n1' + 1 ≤ n1 + B ∧ Kb b1 b2 w w'

set_option maxRecDepth 20000 in
set_option maxHeartbeats 4000000 in
theorem r_any (g : Nat) (hg : g < 17) (h3 : g ≠ 3) (W0 : World) (T0 mb b1 b2 n2 : Nat) (D2 : DataW Value) : ∀ (n x u : Nat) (w : World) (n1 : Nat) (D1 : DataW Value), ln g x < n → x < nE g → u < nE g → Msr W0 w g T0 mb b1 b2 n1 n2 D1 D2 → n1 + 2 ^ n ≤ 4611686018427387904 →
    Calls Try.prog 86 #[.pointer (some ⟨mb, 0, none⟩), .int .i64 (u : Nat), .int .i64 (x : Nat)] w (RPost W0 w g T0 mb b1 b2 n1 n2 (2 ^ n) u x D2) := by
  intro n
  induction n with
  | zero => intro x u w n1 D1 hl; omega
  | succ n ih =>
    intro x u w n1 D1 hl hx hu hM hn
    have h48 := nE_le hg h3
    have hP : (2 : Nat) ^ (n + 1) = 2 ^ n + 2 ^ n := by rw [Nat.pow_succ]; omega
    have hP1 : 1 ≤ 2 ^ n := Nat.one_le_two_pow
    rw [hP] at hn ⊢
    clear hP
    have HIH := Lib.hid ih
    clear ih
    generalize 2 ^ n = P at *
    have HM := Lib.hid hM
    have HT := Lib.hid hM.tabw
    clear hM
    by_cases e0 : u = x
    · subst e0
      have HE := Lib.hid (dR_one hg h3 hu hx rfl)
      have HI := Lib.hid (ints_one w)
      have HB : Hid (Below w.heap.size w (w.alloc (.cells #[.int .i64 1] 3))) := Lib.hid (a1 _ _)
      clear HIH
      go_enter Try.func86, Try.ntmps86
      go_wp2_with fail
      go_ret
      refine ⟨some ⟨w.heap.size, 0, none⟩, 1, n1, D1, ?_, ?_, HM.out.below HB.out, by omega, .of HB.out⟩
      · rw [HE.out]; rfl
      · rw [HE.out]; exact HI.out
    · have huu : ((u : Int) == (x : Int)) = false := beq_eq_false_iff_ne.2 (by omega)
      have HL1 := Lib.hid (fun n => length_any g T0 u hg (w.drewN n) (HT.out.drewN n) hu)
      have HL2 := Lib.hid (fun n => length_any g T0 x hg (w.drewN n) (HT.out.drewN n) hx)
      have c0 := HM.out.at.1
      have c1 := HM.out.at.2.1
      by_cases hge : ln g x ≤ ln g u
      · have HE := Lib.hid (dR_nil hg h3 hu hx e0 hge)
        clear HIH
        generalize hp : ln g u = p at *
        generalize hq : ln g x = q at *
        clear hp hq
        go_enter Try.func86, Try.ntmps86
        go_wp2_with fail
        go_quiet (first | (go_at_call 70; first | with_reducible exact quiet_eq (HL1.out _) | with_reducible exact quiet_eq (HL2.out _)))
        go_wp2_with fail
        go_ret
        refine ⟨none, 0, n1, D1, ?_, ?_, HM.out.below (below_drewN (Below.refl _ _) _), by omega, .of (below_drewN (Below.refl _ _) _)⟩
        · rw [HE.out]; rfl
        · rw [HE.out]; exact ints_none _
      · obtain ⟨l, hl2⟩ := kp_ex (i := u) (j := x) (by omega) (by omega)
        have HK := Lib.hid hl2
        clear hl2
        cases hh : Maps.has D1 l with
        | true =>
          obtain ⟨a, c, ha, hi⟩ := HM.out.v1.2 u x l HK.out hh
          have HI := Lib.hid hi
          have HH := Lib.hid hh
          have HA := Lib.hid ha
          clear HIH hh ha hi
          generalize hp : ln g u = p at *
          generalize hq : ln g x = q at *
          clear hp hq
          go_enter Try.func86, Try.ntmps86
          go_wp2_with fail
          go_quiet (first | (go_at_call 70; first | with_reducible exact quiet_eq (HL1.out _) | with_reducible exact quiet_eq (HL2.out _)))
          have HBq : Hid (Below w.heap.size w (w.drewN nq)) := Lib.hid (below_drewN (Below.refl _ _) nq)
          have HMq := Lib.hid (HM.out.below HBq.out)
          clear HL1 HL2 c0 c1
          generalize w.drewN nq = w1 at *
          have c0 := HMq.out.at.1
          have c1 := HMq.out.at.2.1
          go_wp2_with (first | (at_lookup; refine wpl_hit _ rfl _ _ rfl b1 n1 D1 rfl HMq.out.m1 u x l (by rfl) HK.out _ HH.out HA.out ?_) | fail)
          go_ret
          exact ⟨a, c, n1, D1, rfl, HI.out.below HBq.out (Nat.le_refl _), HMq.out, by omega, .of HBq.out⟩
        | false =>
          have HH := Lib.hid hh
          have hlt0 : ln g u < ln g x := by omega
          have h0 : x ≠ 0 := fun q => by rw [q, ln_zero hg] at hlt0; omega
          have hls := (last_ok hg hx h0).2.1
          have hlt := (last_ok hg hx h0).2.2
          have hus := (tb hg hu hls).2.1
          have hxs := (tb hg hx hls).2.1
          have HLa := Lib.hid (fun W (hT : TableAt W T0 g) => last_any g T0 x hg W hT hx h0)
          have HFa := Lib.hid (fun W (hT : TableAt W T0 g) => falls_any g T0 u (lastL g x) hg W hT hu hls)
          have HC : Hid (∀ W, TableAt W T0 g → ∃ rb cr ru cu rx cx, W.cell? ⟨T0, 1, none⟩ = some (.slice (some ⟨rb, 0, none⟩) (nE g) cr) ∧ W.cell? ⟨rb, u, none⟩ = some (.slice (some ⟨ru, 0, none⟩) (kM g) cu) ∧ W.cell? ⟨rb, x, none⟩ = some (.slice (some ⟨rx, 0, none⟩) (kM g) cx) ∧ W.cell? ⟨ru, lastL g x, none⟩ = some (.int .i64 (rt g u (lastL g x) : Nat)) ∧ W.cell? ⟨rx, lastL g x, none⟩ = some (.int .i64 (rt g x (lastL g x) : Nat))) := Lib.hid (fun W hT => by
            obtain ⟨wb, cw, rb, cr, ws, R, C, ht⟩ := hT.open hg
            obtain ⟨r1, _, r2⟩ := ht.right _ hu
            obtain ⟨q1, _, q2⟩ := ht.right _ hx
            exact ⟨rb, cr, _, _, _, _, ht.c1, r1, q1, r2 _ hls, q2 _ hls⟩)
          have HI1 := Lib.hid (fun W n1 D1 hM hn => HIH.out (rt g x (lastL g x)) (rt g u (lastL g x)) W n1 D1 (by omega) hxs hus hM hn)
          have HI2 := Lib.hid (fun W n1 D1 hM hn => HIH.out (rt g x (lastL g x)) u W n1 D1 (by omega) hxs hu hM hn)
          have HFl := Lib.hid (dR_fall hg h3 hu hx e0 hlt0)
          have HSt := Lib.hid (fun q => (dR_step hg h3 hu hx e0 hlt0 q).1)
          have HbA := Lib.hid (dR_bd hg h3 hu hxs)
          have HbF := Lib.hid (dR_bd hg h3 hus hxs)
          clear HIH hh e0 hlt
          generalize hp : ln g u = p at *
          generalize hq : ln g x = q at *
          clear hp hq
          generalize hsx : lastL g x = s at *
          clear hsx
          have hA13 := dR_len g u (rt g x s)
          have hF13 := dR_len g (rt g u s) (rt g x s)
          generalize rt g u s = us at *
          generalize rt g x s = xs at *
          generalize hlu : ln g us = lu at *
          clear hlu
          go_enter Try.func86, Try.ntmps86
          go_wp2_with fail
          go_quiet (first | (go_at_call 70; first | with_reducible exact quiet_eq (HL1.out _) | with_reducible exact quiet_eq (HL2.out _)))
          have HBq : Hid (Below w.heap.size w (w.drewN nq)) := Lib.hid (below_drewN (Below.refl _ _) nq)
          have HMq := Lib.hid (HM.out.below HBq.out)
          clear HL1 HL2 c0 c1
          generalize w.drewN nq = w1 at *
          have c0 := HMq.out.at.1
          have c1 := HMq.out.at.2.1
          go_wp2_with (first | (at_lookup; refine wpl_miss _ rfl _ _ rfl b1 n1 D1 rfl HMq.out.m1 u x l (by rfl) HK.out HH.out ?_) | fail)
          refine (HLa.out _ HMq.out.tabw).mono ?_
          rintro e w2 ⟨rfl, nn, hw2⟩
          have HB2 : Hid (Below w1.heap.size w1 w2) := Lib.hid (by rw [hw2]; exact below_drewN (Below.refl _ _) _)
          have HM2 := Lib.hid (HMq.out.below HB2.out)
          have HK2 : Hid (Kb b1 b2 w w2) := Lib.hid ((Kb.of HBq.out).trans (.of HB2.out))
          clear hw2 HLa c0 c1 HB2 HBq HMq HM HT
          have c0 := HM2.out.at.1
          obtain ⟨rb, cr, ru, cu, rx, cx, q1, q2, q3, q4, q5⟩ := HC.out _ HM2.out.tabw
          clear HC
          go_wp2_with fail
          go_quiet (fail)
          have HB3 : Hid (Below w2.heap.size w2 (w2.drewN nq)) := Lib.hid (below_drewN (Below.refl _ _) nq)
          have HM3 := Lib.hid (HM2.out.below HB3.out)
          have HK3 : Hid (Kb b1 b2 w (w2.drewN nq)) := Lib.hid (HK2.out.trans (.of HB3.out))
          clear q1 q2 q3 q4 q5 c0 HB3 HM2 HK2
          generalize w2.drewN nq = w3 at *
          have c0 := HM3.out.at.1
          go_wp2_with fail
          refine (HI1.out _ n1 D1 HM3.out (by omega)).mono ?_
          by_cases hf : lu < p
          · have hE := HFl.out hf
            rw [decide_eq_true hf] at HFa
            rintro e w4 ⟨a4, c4, n4, D4, he, hi4, hM4, hn4, hk4⟩
            rw [← hE] at he hi4
            subst he
            have HI4 := Lib.hid hi4
            have HM4 := Lib.hid hM4
            have HK4 : Hid (Kb b1 b2 w w4) := Lib.hid (HK3.out.trans hk4)
            clear hi4 hM4 hk4 hE HFl HSt HM3 HK3 c0
            have c0 := HM4.out.at.1
            have c1 := HM4.out.at.2.1
            go_wp2_with fail
            refine (HFa.out _ HM4.out.tabw).mono ?_
            rintro e w5 ⟨rfl, rfl⟩
            clear HFa HI1 HI2
            go_wp2_with (first | (at_mapUpdate; refine wpl_put _ rfl _ _ _ rfl b1 n4 D4 rfl HM4.out.m1 (by unfold maxLen; omega) u x _ l (by rfl) (by rfl) HK.out ?_; intro w6 hm6 hg6) | fail)
            have hM6 := HM4.out.put1 hm6 hg6 HK.out HI4.out
            have hk6 : Kb b1 b2 w4 w6 := .grown1 hg6
            have hI6 := HI4.out.kb hk6 HM4.out.i1 HM4.out.i2
            go_ret
            exact ⟨a4, c4, _, _, rfl, hI6, hM6, by omega, HK4.out.trans hk6⟩
          · have hE := HSt.out hf
            rw [decide_eq_false hf] at HFa
            rintro e w4 ⟨a4, c4, n4, D4, rfl, hi4, hM4, hn4, hk4⟩
            have HI4 := Lib.hid hi4
            have HM4 := Lib.hid hM4
            have HK4 : Hid (Kb b1 b2 w w4) := Lib.hid (HK3.out.trans hk4)
            have HE := Lib.hid hE
            clear hi4 hM4 hk4 hE HFl HSt HM3 HK3 c0
            have c0 := HM4.out.at.1
            go_wp2_with fail
            refine (HFa.out _ HM4.out.tabw).mono ?_
            rintro e w5 ⟨rfl, rfl⟩
            clear HFa HI1
            go_wp2_with fail
            refine (HI2.out _ n4 D4 HM4.out (by omega)).mono ?_
            rintro e w5 ⟨a5, c5, n5, D5, rfl, hi5, hM5, hn5, hk5⟩
            have HI5 := Lib.hid hi5
            have HM5 := Lib.hid hM5
            have HK5 : Hid (Kb b1 b2 w w5) := Lib.hid (HK4.out.trans hk5)
            have HF5 := Lib.hid (HI4.out.kb hk5 HM4.out.i1 HM4.out.i2)
            clear hi5 hM5 hk5 HM4 HK4 HI4 HI2 c0
            obtain ⟨FF, hFF⟩ : ∃ FF, FF = dR g us xs := ⟨_, rfl⟩
            obtain ⟨AA, hAA⟩ : ∃ AA, AA = dR g u xs := ⟨_, rfl⟩
            rw [← hFF] at HF5 HE HbF hF13 ⊢
            rw [← hAA] at HI5 HE HbA hA13 ⊢
            clear hFF hAA
            have HtA := Lib.hid (tms2_ok hA13 HbA.out (h := [-1, 1]) rfl (by intro c hc; simp at hc; omega))
            have HtF := Lib.hid (tms2_ok hF13 HbF.out (h := [0, 1]) rfl (by intro c hc; simp at hc; omega))
            go_wp2_with fail
            refine (times_any _ _ AA [-1, 1] _ (HI5.out.alloc _) (ints_m1 _) (by omega) (by simp) (HbA.out.mono (by omega)) bd_m1).mono ?_
            rintro e w6 ⟨a6, c6, rfl, hi6, hb6⟩
            have hb6 := bl1' hb6
            have HI6 := Lib.hid hi6
            have HM6 := Lib.hid (HM5.out.below hb6)
            have HK6 : Hid (Kb b1 b2 w w6) := Lib.hid (HK5.out.trans (.of hb6))
            have HF6 := Lib.hid (HF5.out.below hb6 (Nat.le_refl _))
            clear hi6 hb6 HI5 HM5 HK5 HF5
            go_wp2_with fail
            refine (times_any _ _ FF [0, 1] _ (HF6.out.alloc _) (ints_01 _) (by omega) (by simp) (HbF.out.mono (by omega)) bd_01).mono ?_
            rintro e w7 ⟨a7, c7, rfl, hi7, hb7⟩
            have hb7 := bl1' hb7
            have HI7 := Lib.hid hi7
            have HJ7 := Lib.hid (HI6.out.below hb7 (Nat.le_refl _))
            have HM7 := Lib.hid (HM6.out.below hb7)
            have HK7 : Hid (Kb b1 b2 w w7) := Lib.hid (HK6.out.trans (.of hb7))
            clear hi7 hb7 HI6 HM6 HK6 HF6
            go_wp2_with fail
            refine (plus_any _ _ _ _ _ HJ7.out HI7.out HtA.out.1 HtF.out.1 HtA.out.2 HtF.out.2).mono ?_
            rintro e w8 ⟨a8, c8, he, hi8, hb8⟩
            rw [show plusL (tmsL AA [-1, 1]) (tmsL FF [0, 1]) = dR g u x from HE.out.symm] at he hi8
            subst he
            have HI8 := Lib.hid hi8
            have HM8 := Lib.hid (HM7.out.below hb8)
            have HK8 : Hid (Kb b1 b2 w w8) := Lib.hid (HK7.out.trans (.of hb8))
            clear hi8 hb8 HI7 HJ7 HM7 HK7 HtA HtF HE HbA HbF hA13 hF13
            have c0 := HM8.out.at.1
            have c1 := HM8.out.at.2.1
            go_wp2_with (first | (at_mapUpdate; refine wpl_put _ rfl _ _ _ rfl b1 n5 D5 rfl HM8.out.m1 (by unfold maxLen; omega) u x _ l (by rfl) (by rfl) HK.out ?_; intro w9 hm9 hg9) | fail)
            have hM9 := HM8.out.put1 hm9 hg9 HK.out HI8.out
            have hk9 : Kb b1 b2 w8 w9 := .grown1 hg9
            have hI9 := HI8.out.kb hk9 HM8.out.i1 HM8.out.i2
            go_ret
            exact ⟨a8, c8, _, _, rfl, hI9, hM9, by omega, HK8.out.trans hk9⟩
end Go.Proofs.Ytlnbodpdgebflaa

namespace Go.Proofs.Ytlnbodpdgebflaa
open Go.RowKit

def PPost (W0 w : World) (g T0 mb b1 b2 n1 n2 Q u x : Nat) (e : Ending) (w' : World) : Prop :=
  ∃ a c n1' n2' D1' D2', e = .returned (.slice a (dP g u x).length c) ∧ Ints w' (.slice a (dP g u x).length c) (dP g u x) ∧ Msr W0 w' g T0 mb b1 b2 n1' n2' D1' D2' ∧ n1' + 8192 ≤ n1 + 8192 * Q ∧ n2' ≤ n2 + Q ∧ Kb b1 b2 w w'
/-- The sum on its way. -/
def PL (W0 w wr : World) (g T0 mb b1 b2 N1 N2 u x k : Nat) (v : Value) : Prop :=
  ∃ a c m1 m2 E1 E2, v = .slice a (sumMK g u x k).length c ∧ Ints wr v (sumMK g u x k) ∧ Msr W0 wr g T0 mb b1 b2 m1 m2 E1 E2 ∧ m1 + 8192 * 2 ^ (x - u - k) ≤ N1 ∧ m2 + 2 ^ (x - u - k) ≤ N2 ∧ Kb b1 b2 w wr
theorem neg_end {l : List Int} {h : Nat} (hh : h ≤ l.length) : tab h (fun t => if t < h then -(l.getD t 0) else 0) = (l.take h).map fun c => -c := by
  refine list_ext (by rw [tab_len, List.length_map, List.length_take]; omega) fun i hi => ?_
  rw [tab_len] at hi
  rw [tab_get _ hi, if_pos hi, List.getD_eq_getElem?_getD, List.getD_eq_getElem?_getD, List.getElem?_map, List.getElem?_take, if_pos hi, List.getElem?_eq_getElem (by omega)]
  rfl
theorem I64.of {z : Int} (h : -1000000000000 ≤ z ∧ z ≤ 1000000000000) : I64 z := by unfold I64; omega

set_option maxRecDepth 20000 in
set_option maxHeartbeats 4000000 in
theorem p_any (g : Nat) (hg : g < 17) (h3 : g ≠ 3) (W0 : World) (T0 mb b1 b2 : Nat) : ∀ (n x u : Nat) (w : World) (n1 n2 : Nat) (D1 D2 : DataW Value), x - u < n → x < nE g → u < nE g → Msr W0 w g T0 mb b1 b2 n1 n2 D1 D2 → n1 + 8192 * 2 ^ (x - u) ≤ 4611686018427387904 → n2 + 2 ^ (x - u) ≤ 4611686018427387904 →
    Calls Try.prog 87 #[.pointer (some ⟨mb, 0, none⟩), .int .i64 (u : Nat), .int .i64 (x : Nat)] w (PPost W0 w g T0 mb b1 b2 n1 n2 (2 ^ (x - u)) u x) := by
  intro n
  induction n with
  | zero => intro x u w n1 n2 D1 D2 hl; omega
  | succ n ih =>
    intro x u w n1 n2 D1 D2 hl hx hu hM hn1 hn2
    have h48 := nE_le hg h3
    have hQ1 : 1 ≤ 2 ^ (x - u) := Nat.one_le_two_pow
    have HIH := Lib.hid ih
    have HM := Lib.hid hM
    clear hM ih
    by_cases e0 : u = x
    · subst e0
      have HE := Lib.hid (dP_one hg h3 hu hx rfl)
      have HI := Lib.hid (ints_one w)
      have HB : Hid (Below w.heap.size w (w.alloc (.cells #[.int .i64 1] 3))) := Lib.hid (a1 _ _)
      clear HIH
      generalize 2 ^ (u - u) = Q at *
      go_enter Try.func87, Try.ntmps87
      go_wp2_with fail
      go_ret
      refine ⟨some ⟨w.heap.size, 0, none⟩, 1, n1, n2, D1, D2, ?_, ?_, HM.out.below HB.out, by omega, by omega, .of HB.out⟩
      · rw [HE.out]; rfl
      · rw [HE.out]; exact HI.out
    · have huu : ((u : Int) == (x : Int)) = false := beq_eq_false_iff_ne.2 (by omega)
      have HLo := Lib.hid (fun W (hT : TableAt W T0 g) => below_any g T0 u x hg W hT hu hx)
      have c0 := HM.out.at.1
      cases hlo : loB g u x with
      | false =>
        have HE := Lib.hid (dP_nil hg h3 hu hx e0 hlo)
        rw [hlo] at HLo
        clear HIH hlo
        generalize 2 ^ (x - u) = Q at *
        go_enter Try.func87, Try.ntmps87
        go_wp2_with fail
        refine (HLo.out _ HM.out.tabw).mono ?_
        rintro e w1 ⟨rfl, nn, hw1⟩
        have HB : Hid (Below w.heap.size w w1) := Lib.hid (by rw [hw1]; exact below_drewN (Below.refl _ _) _)
        clear hw1 c0
        go_wp2_with fail
        go_ret
        refine ⟨none, 0, n1, n2, D1, D2, ?_, ?_, HM.out.below HB.out, by omega, by omega, .of HB.out⟩
        · rw [HE.out]; rfl
        · rw [HE.out]; exact ints_none _
      | true =>
        rw [hlo] at HLo
        obtain ⟨l, hl2⟩ := kp_ex (i := u) (j := x) (by omega) (by omega)
        have HK := Lib.hid hl2
        clear hl2
        cases hh : Maps.has D2 l with
        | true =>
          obtain ⟨a, c, ha, hi⟩ := HM.out.v2.2 u x l HK.out hh
          have HI := Lib.hid hi
          have HH := Lib.hid hh
          have HA := Lib.hid ha
          clear HIH hh ha hi hlo
          generalize 2 ^ (x - u) = Q at *
          go_enter Try.func87, Try.ntmps87
          go_wp2_with fail
          refine (HLo.out _ HM.out.tabw).mono ?_
          rintro e w1 ⟨rfl, nn, hw1⟩
          have HB : Hid (Below w.heap.size w w1) := Lib.hid (by rw [hw1]; exact below_drewN (Below.refl _ _) _)
          have HM1 := Lib.hid (HM.out.below HB.out)
          clear hw1 c0
          have c2 := HM1.out.at.2.2
          go_wp2_with (first | (at_lookup; refine wpl_hit _ rfl _ _ rfl b2 n2 D2 rfl HM1.out.m2 u x l (by rfl) HK.out _ HH.out HA.out ?_) | fail)
          go_ret
          exact ⟨a, c, n1, n2, D1, D2, rfl, HI.out.below HB.out (Nat.le_refl _), HM1.out, by omega, by omega, .of HB.out⟩
        | false =>
          have HH := Lib.hid hh
          have hlt0 : ln g u < ln g x := ((ord_two hg hu hx).2.2 hlo).2.resolve_right e0
          have hlx := (tx hg hx).2.1
          have HSt := Lib.hid (dP_step hg h3 hu hx e0 hlo)
          have HSum := Lib.hid (sumM_ok hg h3 hu hx)
          have HEnd := Lib.hid (sumM_end hg hu hx)
          have HLen := Lib.hid (fun W (hT : TableAt W T0 g) => length_any g T0 x hg W hT hx)
          have HLen' := Lib.hid (fun W (hT : TableAt W T0 g) => length_any g T0 u hg W hT hu)
          obtain ⟨N1, hN1⟩ : ∃ N, N = n1 + 8192 * 2 ^ (x - u) := ⟨_, rfl⟩
          obtain ⟨N2, hN2⟩ : ∃ N, N = n2 + 2 ^ (x - u) := ⟨_, rfl⟩
          rw [← hN1] at hn1
          rw [← hN2] at hn2
          have HN1 := Lib.hid hN1
          have HN2 := Lib.hid hN2
          clear hN1 hN2 hh hlo hQ1
          go_enter Try.func87, Try.ntmps87
          go_wp2_with fail
          refine (HLo.out _ HM.out.tabw).mono ?_
          rintro e w1 ⟨rfl, nn, hw1⟩
          have HB : Hid (Below w.heap.size w w1) := Lib.hid (by rw [hw1]; exact below_drewN (Below.refl _ _) _)
          have HM1 := Lib.hid (HM.out.below HB.out)
          clear hw1 c0 HLo HM
          have c2 := HM1.out.at.2.2
          go_wp2_with (first | (at_lookup; refine wpl_miss _ rfl _ _ rfl b2 n2 D2 rfl HM1.out.m2 u x l (by rfl) HK.out HH.out ?_) | fail)
          clear c2 HH
          go_loopw [9, 10] (fun v i wr => ∃ k : Nat, k ≤ x - u ∧ i = .int .i64 ((u + 1 + k : Nat) : Int) ∧ PL W0 w wr g T0 mb b1 b2 N1 N2 u x k v) (fun _ i _ => x + 1 - (intOf i).toNat)
          case atStart => exact ⟨0, Nat.zero_le _, rfl, none, 0, n1, n2, D1, D2, rfl, ints_none _, HM1.out, by rw [HN1.out]; exact Nat.le_refl _, by rw [HN2.out]; exact Nat.le_refl _, .of HB.out⟩
          case round =>
            clear HB HM1
            obtain ⟨k, hk, rfl, a, c, m1, m2, E1, E2, rfl, hI, hM, hm1, hm2, hK⟩ := hrel
            have HI := Lib.hid hI
            have HM := Lib.hid hM
            have HKb := Lib.hid hK
            clear hI hM hK
            by_cases hlt : u + 1 + k ≤ x
            · obtain ⟨y, hy⟩ : ∃ y, y = u + 1 + k := ⟨_, rfl⟩
              have hyx : y < nE g := by omega
              have hkd : x - u - k = (x - y) + 1 := by omega
              have hkd' : x - u - (k + 1) = x - y := by omega
              have hpow : 2 ^ (x - u - k) = 2 ^ (x - y) + 2 ^ (x - y) := by rw [hkd, Nat.pow_succ]; omega
              have hQ1 : 1 ≤ 2 ^ (x - y) := Nat.one_le_two_pow
              rw [hpow] at hm1 hm2
              have HY1 := Lib.hid (fun W (hT : TableAt W T0 g) => below_any g T0 u y hg W hT hu hyx)
              have HY2 := Lib.hid (fun W (hT : TableAt W T0 g) => below_any g T0 y x hg W hT hyx hx)
              have HGo : Hid (PL W0 w wr g T0 mb b1 b2 N1 N2 u x k (.slice a (sumMK g u x k).length c)) := Lib.hid ⟨a, c, m1, m2, E1, E2, rfl, HI.out, HM.out, by rw [hpow]; omega, by rw [hpow]; omega, HKb.out⟩
              have HYes := Lib.hid (fun h => sumMK_yes (g := g) (u := u) (x := x) (k := k) h)
              have HNo := Lib.hid (fun h => sumMK_no (g := g) (u := u) (x := x) (k := k) h)
              have hsl := (HSum.out k hk).1
              have HSB := Lib.hid (HSum.out k hk).2
              have hk47 : k * 832 ≤ 100000 := by
                have : k * 832 ≤ 48 * 832 := Nat.mul_le_mul_right _ (by omega)
                omega
              have HStay : Hid (∀ W, Below wr.heap.size wr W → ¬ (loB g u y && loB g y x) = true → PL W0 w W g T0 mb b1 b2 N1 N2 u x (k + 1) (.slice a (sumMK g u x k).length c)) := Lib.hid (fun W hb hn => by
                rw [hy] at hn
                have e := HNo.out hn
                refine ⟨a, c, m1, m2, E1, E2, by rw [e], ?_, HM.out.below hb, by rw [hkd']; omega, by rw [hkd']; omega, HKb.out.trans (.of hb)⟩
                rw [e]; exact HI.out.below hb (Nat.le_refl _))
              have HMk : Hid (∀ W a c m1 m2 E1 E2, Ints W (.slice a (sumMK g u x (k + 1)).length c) (sumMK g u x (k + 1)) → Msr W0 W g T0 mb b1 b2 m1 m2 E1 E2 → m1 + 8192 * 2 ^ (x - y) ≤ N1 → m2 + 2 ^ (x - y) ≤ N2 → Kb b1 b2 w W → PL W0 w W g T0 mb b1 b2 N1 N2 u x (k + 1) (.slice a (sumMK g u x (k + 1)).length c)) :=
                Lib.hid (fun W a c m1 m2 E1 E2 h1 h2 h3 h4 h5 => ⟨a, c, m1, m2, E1, E2, rfl, h1, h2, by rw [hkd']; exact h3, by rw [hkd']; exact h4, h5⟩)
              have HI2 := Lib.hid (fun W n1 n2 D1 D2 hM h1 h2 => HIH.out x y W n1 n2 D1 D2 (by omega) hx hyx hM h1 h2)
              rw [← hy]
              rw [← hy] at HYes hlt
              have HY := Lib.hid hy
              clear HNo HSum HSt HEnd HGo hpow HLen HLen' hy hkd hkd' HIH
              generalize 2 ^ (x - y) = Q at *
              have c0 := HM.out.at.1
              go_wp2_with fail
              refine (HY1.out _ HM.out.tabw).mono ?_
              rintro e w2 ⟨rfl, nn, hw2⟩
              have HB2 : Hid (Below wr.heap.size wr w2) := Lib.hid (by rw [hw2]; exact below_drewN (Below.refl _ _) _)
              have HM2 := Lib.hid (HM.out.below HB2.out)
              clear hw2 c0 HY1
              have c0 := HM2.out.at.1
              cases h1 : loB g u y with
              | false =>
                have HX := Lib.hid (HStay.out _ HB2.out (by rw [h1]; simp))
                clear h1
                go_wp2_with fail
                go_roundw
                case rel => exact ⟨k + 1, by have := HY.out; omega, by rw [HY.out]; go_num, HX.out⟩
                case measure => simp [intOf]; omega
              | true =>
                go_wp2_with fail
                refine (HY2.out _ HM2.out.tabw).mono ?_
                rintro e w3 ⟨rfl, nn, hw3⟩
                have HB3 : Hid (Below w2.heap.size w2 w3) := Lib.hid (by rw [hw3]; exact below_drewN (Below.refl _ _) _)
                have HM3 := Lib.hid (HM2.out.below HB3.out)
                have HI3 := Lib.hid ((HI.out.below HB2.out (Nat.le_refl _)).below HB3.out (Nat.le_refl _))
                have HK3 : Hid (Kb b1 b2 w w3) := Lib.hid ((HKb.out.trans (.of HB2.out)).trans (.of HB3.out))
                have HB23 : Hid (Below wr.heap.size wr w3) := Lib.hid (HB2.out.trans (HB3.out.mono HB2.out.size))
                clear hw3 c0 HY2
                cases h2 : loB g y x with
                | false =>
                  have HX := Lib.hid (HStay.out _ HB23.out (by rw [h2]; simp))
                  clear h1 h2
                  go_wp2_with fail
                  go_roundw
                  case rel => exact ⟨k + 1, by have := HY.out; omega, by rw [HY.out]; go_num, HX.out⟩
                  case measure => simp [intOf]; omega
                | true =>
                  have HE := Lib.hid (HYes.out (by rw [h1, h2]; rfl))
                  have hR13 := dR_len g u y
                  have hP4 := dP_len g y x
                  have HbR := Lib.hid (dR_bd hg h3 hu hyx)
                  have HbP := Lib.hid (dP_bd hg h3 hyx hx)
                  have HtL := Lib.hid (tms_len hR13 hP4)
                  have HtB : Hid (Bnd 100000000000000 (tmsL (dR g u y) (dP g y x))) := Lib.hid ((tms_bd HbR.out HbP.out).mono (by
                    have : (dR g u y).length * (8 * 8) ≤ 13 * 64 := Nat.mul_le_mul_right _ hR13
                    omega))
                  have HR := Lib.hid (r_any g hg h3 W0 T0 mb b1 b2 m2 E2 13 y u w3 m1 E1 (by have := (tx hg hyx).2.1; omega) hyx hu HM3.out (by omega))
                  clear h1 h2 HYes HStay HB2 HB3 HB23 HM2 HM HI HKb
                  go_wp2_with fail
                  refine HR.out.mono ?_
                  rintro e w4 ⟨a4, c4, n4, F4, rfl, hi4, hM4, hn4, hk4⟩
                  have HI4 := Lib.hid hi4
                  have HM4 := Lib.hid hM4
                  have HS4 := Lib.hid (HI3.out.kb hk4 HM3.out.i1 HM3.out.i2)
                  have HK4 : Hid (Kb b1 b2 w w4) := Lib.hid (HK3.out.trans hk4)
                  have hn4' : n4 + 1 ≤ m1 + 8192 := hn4
                  clear hi4 hM4 hk4 HR HM3 HI3 HK3 hn4
                  go_wp2_with fail
                  refine (HI2.out w4 n4 m2 F4 E2 HM4.out (by omega) (by omega)).mono ?_
                  rintro e w5 ⟨a5, c5, n5, n6, F5, F6, rfl, hi5, hM5, hn5, hn6, hk5⟩
                  have HI5 := Lib.hid hi5
                  have HM5 := Lib.hid hM5
                  have HS5 := Lib.hid (HS4.out.kb hk5 HM4.out.i1 HM4.out.i2)
                  have HJ5 := Lib.hid (HI4.out.kb hk5 HM4.out.i1 HM4.out.i2)
                  have HK5 : Hid (Kb b1 b2 w w5) := Lib.hid (HK4.out.trans hk5)
                  clear hi5 hM5 hk5 HM4 HI4 HK4 HS4 HI2
                  go_wp2_with fail
                  refine (times_any _ _ _ _ _ HJ5.out HI5.out (by omega) (by omega) (HbR.out.mono (by omega)) (HbP.out.mono (by omega))).mono ?_
                  rintro e w6 ⟨a6, c6, rfl, hi6, hb6⟩
                  have HI6 := Lib.hid hi6
                  have HM6 := Lib.hid (HM5.out.below hb6)
                  have HS6 := Lib.hid (HS5.out.below hb6 (Nat.le_refl _))
                  have HK6 : Hid (Kb b1 b2 w w6) := Lib.hid (HK5.out.trans (.of hb6))
                  clear hi6 hb6 HM5 HS5 HJ5 HI5 HK5
                  go_wp2_with fail
                  refine (plus_any _ _ _ _ _ HS6.out HI6.out (by omega) (by have := HtL.out; omega) (HSB.out.mono (by omega)) HtB.out).mono ?_
                  rintro e w7 ⟨a7, c7, he, hi7, hb7⟩
                  rw [← HE.out] at he hi7
                  subst he
                  have HX := Lib.hid (HMk.out w7 a7 c7 n5 n6 F5 F6 hi7 (HM6.out.below hb7) (by omega) (by omega) (HK6.out.trans (.of hb7)))
                  clear hi7 hb7
                  go_wp2_with fail
                  go_roundw
                  case rel => exact ⟨k + 1, by have := HY.out; omega, by rw [HY.out]; go_num, HX.out⟩
                  case measure => simp [intOf]; omega
            · have hkk : k = x - u := by omega
              rw [hkk, HEnd.out] at HI ⊢
              have hs17 : (pSumM g u x).length ≤ 17 := by rw [← HEnd.out]; exact (HSum.out _ (Nat.le_refl _)).1
              have HSB : Hid (Bnd 1000000 (pSumM g u x)) := Lib.hid (by
                rw [← HEnd.out]
                refine (HSum.out _ (Nat.le_refl _)).2.mono ?_
                have : (x - u) * 832 ≤ 48 * 832 := Nat.mul_le_mul_right _ (by omega)
                omega)
              have hz : x - u - k = 0 := by omega
              rw [hz, Nat.pow_zero] at hm1 hm2
              obtain ⟨hh1, hP, hPR⟩ := HSt.out
              clear hPR
              obtain ⟨h, hhd⟩ : ∃ h, h = (ln g x - ln g u + 1) / 2 := ⟨_, rfl⟩
              rw [← hhd] at hh1 hP
              rw [← neg_end hh1] at hP
              have HP := Lib.hid hP
              have HX1 := HLen
              have HX2 := HLen'
              generalize hp : ln g u = p at *
              generalize hq : ln g x = q at *
              have hw1 : IntKind.i64.wrap ((q : Int) - (p : Int)) = (q : Int) - (p : Int) := IntWalk.i64_in _ (by omega)
              have hw2 : IntKind.i64.wrap ((q : Int) - (p : Int) + 1) = (q : Int) - (p : Int) + 1 := IntWalk.i64_in _ (by omega)
              have hw3 : Int.tdiv ((q : Int) - (p : Int) + 1) 2 = (h : Nat) := by rw [Int.tdiv_eq_ediv_of_nonneg (by omega)]; omega
              have hw4 : IntKind.i64.wrap (h : Int) = (h : Nat) := IntWalk.i64_in _ (by omega)
              have hmk := run_makeP h (by omega)
              have hlt' : ¬ ((u : Int) + 1 + (k : Nat) ≤ x) := by omega
              have hki : ((u + 1 + (x - u) : Nat) : Int) = (u : Int) + 1 + (k : Nat) := by omega
              rw [hki]
              generalize pSumM g u x = SM at *
              clear hhd hP hz hp hq HSt HSum HEnd HLen HLen' HIH hkk hki hk hlt
              go_wp2_with fail
              refine wp_region_held_drew (S := fun W => Msr W0 W g T0 mb b1 b2 m1 m2 E1 E2) (by kernel_rfl) (HM.out.below (below_drew (Below.refl _ _))) (fun hS0 => ?_)
              refine tk0 (v := (.pointer (some ⟨mb, 0, none⟩))) (by kernel_rfl) (by kernel_rfl) (by kernel_rfl) (fun _ _ _ h => h) (Or.inl ⟨by kernel_rfl, fun w' hSw => by go_simp⟩) hS0 ?_
              try simp only [Act.put, List.setIfInBounds_toArray, List.set_cons_zero, List.set_cons_succ]
              refine tk1 (v := (.pointer (some ⟨mb, 0, none⟩))) (by kernel_rfl) (by kernel_rfl) (by kernel_rfl) (fun _ _ _ h => h) (Or.inl ⟨by kernel_rfl, fun w' hSw => by go_simp⟩) hS0 ?_
              try simp only [Act.put, List.setIfInBounds_toArray, List.set_cons_zero, List.set_cons_succ]
              refine tk2 (v := (.pointer (some ⟨mb, 0, none⟩))) (by kernel_rfl) (by kernel_rfl) (by kernel_rfl) (fun _ _ _ h => h) (Or.inl ⟨by kernel_rfl, fun w' hSw => by go_simp⟩) hS0 ?_
              try simp only [Act.put, List.setIfInBounds_toArray, List.set_cons_zero, List.set_cons_succ]
              refine tk3 (v := (.pointer (some ⟨T0, 0, none⟩))) (by kernel_rfl) (by kernel_rfl) (by kernel_rfl) (fun _ _ _ h => h) (Or.inl ⟨by kernel_rfl, fun w' hSw => by (have h0 := hSw.at.1; go_simp)⟩) hS0 ?_
              try simp only [Act.put, List.setIfInBounds_toArray, List.set_cons_zero, List.set_cons_succ]
              refine tk4 (v := (.int .i64 (x : Nat))) (by kernel_rfl) (by kernel_rfl) (by kernel_rfl) (fun _ _ _ h => h) (Or.inl ⟨by kernel_rfl, fun w' hSw => by go_simp⟩) hS0 ?_
              try simp only [Act.put, List.setIfInBounds_toArray, List.set_cons_zero, List.set_cons_succ]
              refine tk6 (v := (.pointer (some ⟨mb, 0, none⟩))) (by kernel_rfl) (by kernel_rfl) (by kernel_rfl) (fun _ _ _ h => h) (Or.inl ⟨by kernel_rfl, fun w' hSw => by go_simp⟩) hS0 ?_
              try simp only [Act.put, List.setIfInBounds_toArray, List.set_cons_zero, List.set_cons_succ]
              refine tk7 (v := (.pointer (some ⟨mb, 0, none⟩))) (by kernel_rfl) (by kernel_rfl) (by kernel_rfl) (fun _ _ _ h => h) (Or.inl ⟨by kernel_rfl, fun w' hSw => by go_simp⟩) hS0 ?_
              try simp only [Act.put, List.setIfInBounds_toArray, List.set_cons_zero, List.set_cons_succ]
              refine tk8 (v := (.pointer (some ⟨mb, 0, none⟩))) (by kernel_rfl) (by kernel_rfl) (by kernel_rfl) (fun _ _ _ h => h) (Or.inl ⟨by kernel_rfl, fun w' hSw => by go_simp⟩) hS0 ?_
              try simp only [Act.put, List.setIfInBounds_toArray, List.set_cons_zero, List.set_cons_succ]
              refine tk9 (v := (.pointer (some ⟨T0, 0, none⟩))) (by kernel_rfl) (by kernel_rfl) (by kernel_rfl) (fun _ _ _ h => h) (Or.inl ⟨by kernel_rfl, fun w' hSw => by (have h0 := hSw.at.1; go_simp)⟩) hS0 ?_
              try simp only [Act.put, List.setIfInBounds_toArray, List.set_cons_zero, List.set_cons_succ]
              refine tk10 (v := (.int .i64 (u : Nat))) (by kernel_rfl) (by kernel_rfl) (by kernel_rfl) (fun _ _ _ h => h) (Or.inl ⟨by kernel_rfl, fun w' hSw => by go_simp⟩) hS0 ?_
              try simp only [Act.put, List.setIfInBounds_toArray, List.set_cons_zero, List.set_cons_succ]
              refine wpAnyH_ready (rs := [5]) (by kernel_rfl) (by simp) (AllReadyH.cons rfl (fun K hK => ?_) AllReadyH.nil)
              rw [if_pos (by kernel_rfl)]
              go_simp
              refine (HX1.out _ hS0.tabw).mono ?_
              rintro e wa ⟨rfl, rfl⟩
              refine hK.out _ _ hS0 fun _ => ?_
              clear hK
              refine wpAnyH_ready (rs := [11]) (by kernel_rfl) (by simp) (AllReadyH.cons rfl (fun K hK => ?_) AllReadyH.nil)
              rw [if_pos (by kernel_rfl)]
              go_simp
              refine (HX2.out _ hS0.tabw).mono ?_
              rintro e wa ⟨rfl, rfl⟩
              refine hK.out _ _ hS0 fun _ => ?_
              clear hK
              refine tk12 (v := (.int .i64 ((q : Int) - (p : Int)))) (by kernel_rfl) (by kernel_rfl) (by kernel_rfl) (fun _ _ _ h => h) (Or.inl ⟨by kernel_rfl, fun w' hSw => by (first | (go_simp; done) | (go_simp; simp [hw1]; done))⟩) hS0 ?_
              try simp only [Act.put, List.setIfInBounds_toArray, List.set_cons_zero, List.set_cons_succ]
              refine tk13 (v := (.int .i64 ((q : Int) - (p : Int) + 1))) (by kernel_rfl) (by kernel_rfl) (by kernel_rfl) (fun _ _ _ h => h) (Or.inl ⟨by kernel_rfl, fun w' hSw => by (first | (go_simp; done) | (go_simp; simp [hw2]; done))⟩) hS0 ?_
              try simp only [Act.put, List.setIfInBounds_toArray, List.set_cons_zero, List.set_cons_succ]
              refine tk14 (v := (.int .i64 (h : Nat))) (by kernel_rfl) (by kernel_rfl) (by kernel_rfl) (fun _ _ _ h => h) (Or.inl ⟨by kernel_rfl, fun w' hSw => by (first | (go_simp; done) | (go_simp; simp [hw3, hw4]; done))⟩) hS0 ?_
              try simp only [Act.put, List.setIfInBounds_toArray, List.set_cons_zero, List.set_cons_succ]
              refine wpAnyH_ready (rs := [15]) (by kernel_rfl) (by simp) (AllReadyH.cons rfl (fun K hK => ?_) AllReadyH.nil)
              rw [if_pos (by kernel_rfl)]
              go_simp
              refine hK.out _ _ (hS0.below (a1 _ _)) fun _ => ?_
              clear hK
              refine tk16 (v := (.slice (some ⟨wr.heap.size, 0, none⟩) h h)) (by kernel_rfl) (by kernel_rfl) (by kernel_rfl) (fun _ _ _ h => h) (Or.inl ⟨by kernel_rfl, fun w' hSw => by go_simp⟩) (hS0.below (a1 _ _)) ?_
              try simp only [Act.put, List.setIfInBounds_toArray, List.set_cons_zero, List.set_cons_succ]
              refine wpAnyH_done (by kernel_rfl) ?_ _
              clear hS0 hw1 hw2 hw3 hw4 hmk HX1 HX2 hlt'
              have HO0 : Hid ((wr.alloc (Obj.cells (ints (tab h fun _ => 0)).toArray 3)).drew.ownsRow wr.heap.size 3 1 (.slice (some ⟨wr.heap.size, 0, none⟩) h h) h (ints (tab h fun t => if t < 0 then -(SM.getD t 0) else 0))) := Lib.hid (ownP_made h (by omega) wr)
              have HB0 : Hid (Below wr.heap.size wr (wr.alloc (Obj.cells (ints (tab h fun _ => 0)).toArray 3)).drew) := Lib.hid (below_drew (a1 wr _))
              generalize (wr.alloc (Obj.cells (ints (tab h fun _ => 0)).toArray 3)).drew = wz at *
              obtain ⟨_, _, e', hcap, _, hx'⟩ := HI.out.open
              cases e'
              have HSX := Lib.hid hx'
              clear hx'
              go_wp2_with fail
              go_loopw [89] (fun i wi => ∃ k2 : Nat, k2 ≤ h ∧ i = .int .i64 k2 ∧ wi.ownsRow wr.heap.size 3 1 (.slice (some ⟨wr.heap.size, 0, none⟩) h h) h (ints (tab h fun t => if t < k2 then -(SM.getD t 0) else 0)) ∧ Below wr.heap.size wr wi) (fun i _ => h - (intOf i).toNat)
              case atStart => exact ⟨0, Nat.zero_le _, rfl, HO0.out, HB0.out⟩
              case round =>
                rename World => wi
                clear HO0 HB0
                obtain ⟨k2, hk2, rfl, ho, hb⟩ := hrel
                by_cases hl2 : k2 < h
                · obtain ⟨b, o, rfl, d1⟩ := HSX.out k2 (by omega)
                  have d1 := ck d1 hb
                  have t0 := World.ownsRow.cellAt ho k2 (by omega)
                  rw [tabI_get _ hl2, if_neg (Nat.lt_irrefl _)] at t0
                  have t1 := World.ownsRow.frozenAt ho k2
                  have hzb := HSB.out.get k2
                  have hst := (World.ownsRow.stored ho k2 (.int .i64 (-(SM.getD k2 0)))).1
                  rw [tabI_set (G := fun t => if t < k2 + 1 then -(SM.getD t 0) else 0) _ fun i hi => by
                    by_cases e : i = k2
                    · rw [if_pos (show i < k2 + 1 by omega), if_pos e, e]
                    · rw [if_neg e]
                      by_cases e2 : i < k2
                      · rw [if_pos (show i < k2 + 1 by omega), if_pos e2]
                      · rw [if_neg (show ¬ i < k2 + 1 by omega), if_neg e2]] at hst
                  have HST := Lib.hid hst
                  have HBS := Lib.hid (below_cell hb (a := ⟨wr.heap.size, k2, none⟩) (Nat.le_refl _) (.int .i64 (-(SM.getD k2 0))))
                  clear ho hst hb
                  generalize SM.getD k2 0 = z at *
                  go_wp2_with fail
                  go_roundw
                  case rel => exact ⟨k2 + 1, by omega, by go_num, HST.out, HBS.out⟩
                  case measure => simp [intOf]; omega
                · obtain rfl : k2 = h := by omega
                  have HIz := Lib.hid (Ints.of_owns ho (by omega) (fun z hz => by
                    obtain ⟨j, hj, rfl⟩ := List.mem_map.1 hz
                    have := HSB.out.get j
                    refine I64.of ?_
                    split <;> omega))
                  have HMz := Lib.hid (HM.out.below hb)
                  have HKz : Hid (Kb b1 b2 w wi) := Lib.hid (HKb.out.trans (.of hb))
                  clear ho hb HM HKb HI HSB HSX
                  go_wp2_with fail
                  refine (trim_any _ _ _ HIz.out).mono ?_
                  rintro e w8 ⟨a8, c8, he, hi8, rfl⟩
                  rw [← HP.out] at he hi8
                  subst he
                  have HI8 := Lib.hid hi8
                  clear hi8 HIz
                  have c0 := HMz.out.at.1
                  have c2 := HMz.out.at.2.2
                  go_wp2_with (first | (at_mapUpdate; refine wpl_put _ rfl _ _ _ rfl b2 m2 E2 rfl HMz.out.m2 (by unfold maxLen; omega) u x _ l (by rfl) (by rfl) HK.out ?_; intro w9 hm9 hg9) | fail)
                  have hM9 := HMz.out.put2 hm9 hg9 HK.out HI8.out
                  have hk9 : Kb b1 b2 wi w9 := .grown2 hg9
                  have hI9 := HI8.out.kb hk9 HMz.out.i1 HMz.out.i2
                  go_ret
                  exact ⟨a8, c8, m1, m2 + 1, _, _, rfl, hI9, hM9, by have := HN1.out; omega, by have := HN2.out; omega, HKz.out.trans hk9⟩
end Go.Proofs.Ytlnbodpdgebflaa

namespace Go.Proofs.Ytlnbodpdgebflaa
open Go.RowKit

theorem msr_new {W0 : World} {g T0 : Nat} (h : TableAt W0 T0 g) : Msr W0 (((W0.alloc (.map #[] 0)).alloc (.map #[] 0)).alloc (.cells #[.pointer (some ⟨T0, 0, none⟩), .map (some W0.heap.size), .map (some (W0.heap.size + 1))] 105)) g T0 (W0.heap.size + 2) W0.heap.size (W0.heap.size + 1) 0 0 (.map []) (.map []) := by
  have h2 := World.ownsMap_made (W0.alloc (.map #[] 0)) Try.prog 108 hv
  rw [World.size_alloc] at h2
  have h3 : Blk 105 (((W0.alloc (.map #[] 0)).alloc (.map #[] 0)).alloc (.cells #[.pointer (some ⟨T0, 0, none⟩), .map (some W0.heap.size), .map (some (W0.heap.size + 1))] 105)) ((W0.alloc (.map #[] 0)).alloc (.map #[] 0)).heap.size #[.pointer (some ⟨T0, 0, none⟩), .map (some W0.heap.size), .map (some (W0.heap.size + 1))] := Blk.new _ _ _
  rw [World.size_alloc, World.size_alloc] at h3
  exact ⟨h, a3 W0 _ _ _, h3, ((World.ownsMap_made W0 Try.prog 108 hv).alloc _).alloc _, h2.alloc _, Vals.start _ _, Vals.start _ _, Nat.le_refl _, by omega, by omega⟩

set_option maxHeartbeats 400000 in
theorem measured_bad (k n : Int) (v v' f : Value) (l l' : List Int) (w : World) (h : Ints w v l) (h' : Ints w v' l') (hb : Bad k n [l, l']) : Calls Try.prog 85 #[gV k n, v, v', f] w fun e w' => e = .returned (.tuple #[.slice none 0 0, .int .i64 2]) ∧ Below w.heap.size w w' := by
  obtain ⟨va, vc, rfl, _, _, _⟩ := h.open
  obtain ⟨va', vc', rfl, _, _, _⟩ := h'.open
  have HV := Lib.hid h
  have HV' := Lib.hid h'
  clear h h'
  have HO := Lib.hid (fun v W h => open_bad k n v [l, l'] W h (by simp) hb)
  clear hb
  go_enter Try.func85, Try.ntmps85
  go_wp2_with fail
  refine (HO.out _ _ (rows2 (blk_at (by simp)) ((HV.out.alloc _).alloc _) ((HV'.out.alloc _).alloc _))).mono ?_
  rintro e w1 ⟨rfl, hb1⟩
  have HB1 : Hid (Below w.heap.size w w1) := Lib.hid ((a2 w _ _).trans (hb1.mono (by simp; try omega)))
  clear hb1 HO
  go_wp2_with fail
  exact bodyPost_ret (results_tmp2 rfl _ _ _) rfl ⟨rfl, HB1.out⟩

set_option maxHeartbeats 400000 in
theorem measured_size (v v' f : Value) (l l' : List Int) (w : World) (h : Ints w v l) (h' : Ints w v' l') (hw : wordB 3 l = true) (hw' : wordB 3 l' = true) : Calls Try.prog 85 #[gV (kd 3) (nm 3), v, v', f] w fun e w' => e = .returned (.tuple #[.slice none 0 0, .int .i64 6]) ∧ Below w.heap.size w w' := by
  obtain ⟨va, vc, rfl, _, _, _⟩ := h.open
  obtain ⟨va', vc', rfl, _, _, _⟩ := h'.open
  have HV := Lib.hid h
  have HV' := Lib.hid h'
  clear h h'
  have HO := Lib.hid (fun W b hc h h' => open2_ok 3 (by omega) (v := .slice va l.length vc) (v' := .slice va' l'.length vc') (l := l) (l' := l') W b hc h h' hw hw')
  have hE : nE 3 = 120 := by decide +kernel
  clear hw hw'
  generalize kd 3 = K at *
  generalize nm 3 = N at *
  go_enter Try.func85, Try.ntmps85
  go_wp2_with fail
  refine (HO.out _ _ (blk_at (by simp)) ((HV.out.alloc _).alloc _) ((HV'.out.alloc _).alloc _)).mono ?_
  rintro e w1 ⟨T0, eb, eo, ec, rfl, hT, hx, hx', hb1, hec⟩
  have HB1 : Hid (Below w.heap.size w w1) := Lib.hid ((a2 w _ _).trans (hb1.mono (by simp; try omega)))
  obtain ⟨wb, cw, rb, cr, ws, R, C, ht⟩ := hT.open (by omega)
  have c0 := ht.c0
  rw [hE] at c0
  clear hb1 HO hT ht hx hx' hE
  go_wp2_with fail
  exact bodyPost_ret (results_tmp2 rfl _ _ _) rfl ⟨rfl, HB1.out⟩

set_option maxRecDepth 20000 in
set_option maxHeartbeats 1000000 in
theorem measured86_ok (g : Nat) (hg : g < 17) (h3 : g ≠ 3) (F : Nat → Nat → List Int) (hf : ∀ W0 w T0 mb b1 b2 u x, u < nE g → x < nE g → Msr W0 w g T0 mb b1 b2 0 0 (.map []) (.map []) → Calls Try.prog 86 #[.pointer (some ⟨mb, 0, none⟩), .int .i64 (u : Nat), .int .i64 (x : Nat)] w fun e w' => ∃ a c, e = .returned (.slice a (F u x).length c) ∧ Ints w' (.slice a (F u x).length c) (F u x) ∧ Below W0.heap.size W0 w')
    (v v' : Value) (l l' : List Int) (w : World) (h : Ints w v l) (h' : Ints w v' l') (hw : wordB g l = true) (hw' : wordB g l' = true) : Calls Try.prog 85 #[gV (kd g) (nm g), v, v', .func (.func 86) #[] #[]] w fun e w' => ∃ a c, e = .returned (.tuple #[.slice a (F (folI g l) (folI g l')).length c, .int .i64 0]) ∧ Ints w' (.slice a (F (folI g l) (folI g l')).length c) (F (folI g l) (folI g l')) ∧ Below w.heap.size w w' := by
  obtain ⟨va, vc, rfl, _, _, _⟩ := h.open
  obtain ⟨va', vc', rfl, _, _, _⟩ := h'.open
  have HV := Lib.hid h
  have HV' := Lib.hid h'
  have HF := Lib.hid hf
  clear h h' hf
  have HO := Lib.hid (fun W b hc h h' => open2_ok g hg (v := .slice va l.length vc) (v' := .slice va' l'.length vc') (l := l) (l' := l') W b hc h h' hw hw')
  have hlt := folI_lt hg hw
  have hlt' := folI_lt hg hw'
  have h48 := nE_le hg h3
  have hmm := @run_makeMap Try.prog
  clear hw hw'
  generalize folI g l = X at *
  generalize folI g l' = Y at *
  go_enter Try.func85, Try.ntmps85
  go_wp2_with fail
  refine (HO.out _ _ (blk_at (by simp)) ((HV.out.alloc _).alloc _) ((HV'.out.alloc _).alloc _)).mono ?_
  rintro e w1 ⟨T0, eb, eo, ec, rfl, hT, hx, hx', hb1, hec⟩
  have HB1 : Hid (Below w.heap.size w w1) := Lib.hid ((a2 w _ _).trans (hb1.mono (by simp; try omega)))
  obtain ⟨wb, cw, rb, cr, ws, R, C, ht⟩ := hT.open hg
  have c0 := ht.c0
  have HM := Lib.hid (msr_new hT)
  have HX := Lib.hid hx
  have HX' := Lib.hid hx'
  clear hb1 HO hT ht hx hx'
  generalize nE g = NE at *
  go_wp2_with fail
  generalize hwz : ((w1.alloc (.map #[] 0)).alloc (.map #[] 0)).alloc (.cells #[.pointer (some ⟨T0, 0, none⟩), .map (some w1.heap.size), .map (some (w1.heap.size + 1))] 105) = wz at *
  clear hwz c0 hmm
  refine wp_region_held_drew (S := fun W => Below w1.heap.size w1 W) (by kernel_rfl) (HM.out.bel.trans ((below_drew (Below.refl _ _)).mono HM.out.bel.size)) (fun hS0 => ?_)
  refine tk0 (v := (.func (.func 86) #[] #[])) (by kernel_rfl) (by kernel_rfl) (by kernel_rfl) (fun _ _ _ h => h) (Or.inl ⟨by kernel_rfl, fun w' hSw => by go_simp⟩) hS0 ?_
  try simp only [Act.put, List.setIfInBounds_toArray, List.set_cons_zero, List.set_cons_succ]
  refine tk1 (v := (.pointer (some ⟨w1.heap.size + 2, 0, none⟩))) (by kernel_rfl) (by kernel_rfl) (by kernel_rfl) (fun _ _ _ h => h) (Or.inl ⟨by kernel_rfl, fun w' hSw => by go_simp⟩) hS0 ?_
  try simp only [Act.put, List.setIfInBounds_toArray, List.set_cons_zero, List.set_cons_succ]
  refine tk2 (v := (.slice (some ⟨eb, eo, none⟩) 2 ec)) (by kernel_rfl) (by kernel_rfl) (by kernel_rfl) (fun _ _ _ h => h) (Or.inl ⟨by kernel_rfl, fun w' hSw => by go_simp⟩) hS0 ?_
  try simp only [Act.put, List.setIfInBounds_toArray, List.set_cons_zero, List.set_cons_succ]
  refine tk3 (v := (.pointer (some ⟨eb, eo, none⟩))) (by kernel_rfl) (by kernel_rfl) (by kernel_rfl) (fun _ _ _ h => h) (Or.inl ⟨by kernel_rfl, fun w' hSw => by go_simp⟩) hS0 ?_
  try simp only [Act.put, List.setIfInBounds_toArray, List.set_cons_zero, List.set_cons_succ]
  refine tk4 (v := (.int .i64 (X : Nat))) (by kernel_rfl) (by kernel_rfl) (by kernel_rfl) (fun _ _ _ h => h) (Or.inl ⟨by kernel_rfl, fun w' hSw => by (have h0 := ck HX.out hSw; go_simp)⟩) hS0 ?_
  try simp only [Act.put, List.setIfInBounds_toArray, List.set_cons_zero, List.set_cons_succ]
  refine tk5 (v := (.slice (some ⟨eb, eo, none⟩) 2 ec)) (by kernel_rfl) (by kernel_rfl) (by kernel_rfl) (fun _ _ _ h => h) (Or.inl ⟨by kernel_rfl, fun w' hSw => by go_simp⟩) hS0 ?_
  try simp only [Act.put, List.setIfInBounds_toArray, List.set_cons_zero, List.set_cons_succ]
  refine tk6 (v := (.pointer (some ⟨eb, eo + 1, none⟩))) (by kernel_rfl) (by kernel_rfl) (by kernel_rfl) (fun _ _ _ h => h) (Or.inl ⟨by kernel_rfl, fun w' hSw => by go_simp⟩) hS0 ?_
  try simp only [Act.put, List.setIfInBounds_toArray, List.set_cons_zero, List.set_cons_succ]
  refine tk7 (v := (.int .i64 (Y : Nat))) (by kernel_rfl) (by kernel_rfl) (by kernel_rfl) (fun _ _ _ h => h) (Or.inl ⟨by kernel_rfl, fun w' hSw => by (have h0 := ck HX'.out hSw; go_simp)⟩) hS0 ?_
  try simp only [Act.put, List.setIfInBounds_toArray, List.set_cons_zero, List.set_cons_succ]
  refine wpAnyH_ready (rs := [8]) (by kernel_rfl) (by simp) (AllReadyH.cons rfl (fun K hK => ?_) AllReadyH.nil)
  rw [if_pos (by kernel_rfl)]
  go_simp
  refine (HF.out _ _ _ _ _ _ _ _ hlt hlt' (HM.out.below (below_drew (Below.refl _ _)))).mono ?_
  rintro e wa ⟨a, c, rfl, hi, hba⟩
  refine hK.out _ _ hba fun _ => ?_
  clear hK
  refine tk9 (v := (.slice a (F X Y).length c)) (by kernel_rfl) (by kernel_rfl) (by kernel_rfl) (fun _ _ _ h => h) (Or.inl ⟨by kernel_rfl, fun w' hSw => by go_simp⟩) hba ?_
  try simp only [Act.put, List.setIfInBounds_toArray, List.set_cons_zero, List.set_cons_succ]
  refine tk10 (v := (.int .i64 0)) (by kernel_rfl) (by kernel_rfl) (by kernel_rfl) (fun _ _ _ h => h) (Or.inl ⟨by kernel_rfl, fun w' hSw => by go_simp⟩) hba ?_
  try simp only [Act.put, List.setIfInBounds_toArray, List.set_cons_zero, List.set_cons_succ]
  refine wpAnyH_done (by kernel_rfl) ?_ _
  go_wp2_with fail
  exact bodyPost_ret (results_tmp2 rfl _ _ _) rfl ⟨a, c, rfl, hi, HB1.out.trans (hba.mono HB1.out.size)⟩
set_option maxRecDepth 20000 in
set_option maxHeartbeats 1000000 in
theorem measured87_ok (g : Nat) (hg : g < 17) (h3 : g ≠ 3) (F : Nat → Nat → List Int) (hf : ∀ W0 w T0 mb b1 b2 u x, u < nE g → x < nE g → Msr W0 w g T0 mb b1 b2 0 0 (.map []) (.map []) → Calls Try.prog 87 #[.pointer (some ⟨mb, 0, none⟩), .int .i64 (u : Nat), .int .i64 (x : Nat)] w fun e w' => ∃ a c, e = .returned (.slice a (F u x).length c) ∧ Ints w' (.slice a (F u x).length c) (F u x) ∧ Below W0.heap.size W0 w')
    (v v' : Value) (l l' : List Int) (w : World) (h : Ints w v l) (h' : Ints w v' l') (hw : wordB g l = true) (hw' : wordB g l' = true) : Calls Try.prog 85 #[gV (kd g) (nm g), v, v', .func (.func 87) #[] #[]] w fun e w' => ∃ a c, e = .returned (.tuple #[.slice a (F (folI g l) (folI g l')).length c, .int .i64 0]) ∧ Ints w' (.slice a (F (folI g l) (folI g l')).length c) (F (folI g l) (folI g l')) ∧ Below w.heap.size w w' := by
  obtain ⟨va, vc, rfl, _, _, _⟩ := h.open
  obtain ⟨va', vc', rfl, _, _, _⟩ := h'.open
  have HV := Lib.hid h
  have HV' := Lib.hid h'
  have HF := Lib.hid hf
  clear h h' hf
  have HO := Lib.hid (fun W b hc h h' => open2_ok g hg (v := .slice va l.length vc) (v' := .slice va' l'.length vc') (l := l) (l' := l') W b hc h h' hw hw')
  have hlt := folI_lt hg hw
  have hlt' := folI_lt hg hw'
  have h48 := nE_le hg h3
  have hmm := @run_makeMap Try.prog
  clear hw hw'
  generalize folI g l = X at *
  generalize folI g l' = Y at *
  go_enter Try.func85, Try.ntmps85
  go_wp2_with fail
  refine (HO.out _ _ (blk_at (by simp)) ((HV.out.alloc _).alloc _) ((HV'.out.alloc _).alloc _)).mono ?_
  rintro e w1 ⟨T0, eb, eo, ec, rfl, hT, hx, hx', hb1, hec⟩
  have HB1 : Hid (Below w.heap.size w w1) := Lib.hid ((a2 w _ _).trans (hb1.mono (by simp; try omega)))
  obtain ⟨wb, cw, rb, cr, ws, R, C, ht⟩ := hT.open hg
  have c0 := ht.c0
  have HM := Lib.hid (msr_new hT)
  have HX := Lib.hid hx
  have HX' := Lib.hid hx'
  clear hb1 HO hT ht hx hx'
  generalize nE g = NE at *
  go_wp2_with fail
  generalize hwz : ((w1.alloc (.map #[] 0)).alloc (.map #[] 0)).alloc (.cells #[.pointer (some ⟨T0, 0, none⟩), .map (some w1.heap.size), .map (some (w1.heap.size + 1))] 105) = wz at *
  clear hwz c0 hmm
  refine wp_region_held_drew (S := fun W => Below w1.heap.size w1 W) (by kernel_rfl) (HM.out.bel.trans ((below_drew (Below.refl _ _)).mono HM.out.bel.size)) (fun hS0 => ?_)
  refine tk0 (v := (.func (.func 87) #[] #[])) (by kernel_rfl) (by kernel_rfl) (by kernel_rfl) (fun _ _ _ h => h) (Or.inl ⟨by kernel_rfl, fun w' hSw => by go_simp⟩) hS0 ?_
  try simp only [Act.put, List.setIfInBounds_toArray, List.set_cons_zero, List.set_cons_succ]
  refine tk1 (v := (.pointer (some ⟨w1.heap.size + 2, 0, none⟩))) (by kernel_rfl) (by kernel_rfl) (by kernel_rfl) (fun _ _ _ h => h) (Or.inl ⟨by kernel_rfl, fun w' hSw => by go_simp⟩) hS0 ?_
  try simp only [Act.put, List.setIfInBounds_toArray, List.set_cons_zero, List.set_cons_succ]
  refine tk2 (v := (.slice (some ⟨eb, eo, none⟩) 2 ec)) (by kernel_rfl) (by kernel_rfl) (by kernel_rfl) (fun _ _ _ h => h) (Or.inl ⟨by kernel_rfl, fun w' hSw => by go_simp⟩) hS0 ?_
  try simp only [Act.put, List.setIfInBounds_toArray, List.set_cons_zero, List.set_cons_succ]
  refine tk3 (v := (.pointer (some ⟨eb, eo, none⟩))) (by kernel_rfl) (by kernel_rfl) (by kernel_rfl) (fun _ _ _ h => h) (Or.inl ⟨by kernel_rfl, fun w' hSw => by go_simp⟩) hS0 ?_
  try simp only [Act.put, List.setIfInBounds_toArray, List.set_cons_zero, List.set_cons_succ]
  refine tk4 (v := (.int .i64 (X : Nat))) (by kernel_rfl) (by kernel_rfl) (by kernel_rfl) (fun _ _ _ h => h) (Or.inl ⟨by kernel_rfl, fun w' hSw => by (have h0 := ck HX.out hSw; go_simp)⟩) hS0 ?_
  try simp only [Act.put, List.setIfInBounds_toArray, List.set_cons_zero, List.set_cons_succ]
  refine tk5 (v := (.slice (some ⟨eb, eo, none⟩) 2 ec)) (by kernel_rfl) (by kernel_rfl) (by kernel_rfl) (fun _ _ _ h => h) (Or.inl ⟨by kernel_rfl, fun w' hSw => by go_simp⟩) hS0 ?_
  try simp only [Act.put, List.setIfInBounds_toArray, List.set_cons_zero, List.set_cons_succ]
  refine tk6 (v := (.pointer (some ⟨eb, eo + 1, none⟩))) (by kernel_rfl) (by kernel_rfl) (by kernel_rfl) (fun _ _ _ h => h) (Or.inl ⟨by kernel_rfl, fun w' hSw => by go_simp⟩) hS0 ?_
  try simp only [Act.put, List.setIfInBounds_toArray, List.set_cons_zero, List.set_cons_succ]
  refine tk7 (v := (.int .i64 (Y : Nat))) (by kernel_rfl) (by kernel_rfl) (by kernel_rfl) (fun _ _ _ h => h) (Or.inl ⟨by kernel_rfl, fun w' hSw => by (have h0 := ck HX'.out hSw; go_simp)⟩) hS0 ?_
  try simp only [Act.put, List.setIfInBounds_toArray, List.set_cons_zero, List.set_cons_succ]
  refine wpAnyH_ready (rs := [8]) (by kernel_rfl) (by simp) (AllReadyH.cons rfl (fun K hK => ?_) AllReadyH.nil)
  rw [if_pos (by kernel_rfl)]
  go_simp
  refine (HF.out _ _ _ _ _ _ _ _ hlt hlt' (HM.out.below (below_drew (Below.refl _ _)))).mono ?_
  rintro e wa ⟨a, c, rfl, hi, hba⟩
  refine hK.out _ _ hba fun _ => ?_
  clear hK
  refine tk9 (v := (.slice a (F X Y).length c)) (by kernel_rfl) (by kernel_rfl) (by kernel_rfl) (fun _ _ _ h => h) (Or.inl ⟨by kernel_rfl, fun w' hSw => by go_simp⟩) hba ?_
  try simp only [Act.put, List.setIfInBounds_toArray, List.set_cons_zero, List.set_cons_succ]
  refine tk10 (v := (.int .i64 0)) (by kernel_rfl) (by kernel_rfl) (by kernel_rfl) (fun _ _ _ h => h) (Or.inl ⟨by kernel_rfl, fun w' hSw => by go_simp⟩) hba ?_
  try simp only [Act.put, List.setIfInBounds_toArray, List.set_cons_zero, List.set_cons_succ]
  refine wpAnyH_done (by kernel_rfl) ?_ _
  go_wp2_with fail
  exact bodyPost_ret (results_tmp2 rfl _ _ _) rfl ⟨a, c, rfl, hi, HB1.out.trans (hba.mono HB1.out.size)⟩

theorem r_use (g : Nat) (hg : g < 17) (h3 : g ≠ 3) : ∀ W0 w T0 mb b1 b2 u x, u < nE g → x < nE g → Msr W0 w g T0 mb b1 b2 0 0 (.map []) (.map []) → Calls Try.prog 86 #[.pointer (some ⟨mb, 0, none⟩), .int .i64 (u : Nat), .int .i64 (x : Nat)] w fun e w' => ∃ a c, e = .returned (.slice a (dR g u x).length c) ∧ Ints w' (.slice a (dR g u x).length c) (dR g u x) ∧ Below W0.heap.size W0 w' := fun W0 w T0 mb b1 b2 u x hu hx hM => by
  refine (r_any g hg h3 W0 T0 mb b1 b2 0 (.map []) 13 x u w 0 (.map []) (by have := (tx hg hx).2.1; omega) hx hu hM (by omega)).mono ?_
  rintro e w' ⟨a, c, n1, D1, he, hi, hM', _, _⟩
  exact ⟨a, c, he, hi, hM'.bel⟩
set_option maxHeartbeats 400000 in
theorem R_bad (k n : Int) (v v' : Value) (l l' : List Int) (w : World) (h : Ints w v l) (h' : Ints w v' l') (hb : Bad k n [l, l']) : Calls Try.prog 52 #[gV k n, v, v'] w fun e w' => e = .returned (.tuple #[.slice none 0 0, .int .i64 2]) ∧ Below w.heap.size w w' := by
  obtain ⟨va, vc, rfl, _, _, _⟩ := h.open
  obtain ⟨va', vc', rfl, _, _, _⟩ := h'.open
  have HV := Lib.hid h
  have HV' := Lib.hid h'
  clear h h'
  have HO := Lib.hid (fun W h h' => measured_bad k n (.slice va l.length vc) (.slice va' l'.length vc') (.func (.func 86) #[] #[]) l l' W h h' hb)
  clear hb
  go_enter Try.func52, Try.ntmps52
  go_wp2_with fail
  refine (HO.out _ (HV.out.alloc _) (HV'.out.alloc _)).mono ?_
  rintro e w1 ⟨rfl, hb⟩
  clear HO
  go_wp2_with fail
  exact bodyPost_ret (results_tmp2 rfl _ _ _) rfl ⟨rfl, bl1' hb⟩
set_option maxHeartbeats 400000 in
theorem R_size (v v' : Value) (l l' : List Int) (w : World) (h : Ints w v l) (h' : Ints w v' l') (hw : wordB 3 l = true) (hw' : wordB 3 l' = true) : Calls Try.prog 52 #[gV (kd 3) (nm 3), v, v'] w fun e w' => e = .returned (.tuple #[.slice none 0 0, .int .i64 6]) ∧ Below w.heap.size w w' := by
  obtain ⟨va, vc, rfl, _, _, _⟩ := h.open
  obtain ⟨va', vc', rfl, _, _, _⟩ := h'.open
  have HV := Lib.hid h
  have HV' := Lib.hid h'
  clear h h'
  have HO := Lib.hid (fun W h h' => measured_size (.slice va l.length vc) (.slice va' l'.length vc') (.func (.func 86) #[] #[]) l l' W h h' hw hw')
  clear hw hw'
  generalize kd 3 = K at *
  generalize nm 3 = N at *
  go_enter Try.func52, Try.ntmps52
  go_wp2_with fail
  refine (HO.out _ (HV.out.alloc _) (HV'.out.alloc _)).mono ?_
  rintro e w1 ⟨rfl, hb⟩
  clear HO
  go_wp2_with fail
  exact bodyPost_ret (results_tmp2 rfl _ _ _) rfl ⟨rfl, bl1' hb⟩
set_option maxHeartbeats 400000 in
theorem R_ok (g : Nat) (hg : g < 17) (h3 : g ≠ 3) (v v' : Value) (l l' : List Int) (w : World) (h : Ints w v l) (h' : Ints w v' l') (hw : wordB g l = true) (hw' : wordB g l' = true) : Calls Try.prog 52 #[gV (kd g) (nm g), v, v'] w fun e w' => ∃ a c, e = .returned (.tuple #[.slice a (dR g (folI g l) (folI g l')).length c, .int .i64 0]) ∧ Ints w' (.slice a (dR g (folI g l) (folI g l')).length c) (dR g (folI g l) (folI g l')) ∧ Below w.heap.size w w' := by
  obtain ⟨va, vc, rfl, _, _, _⟩ := h.open
  obtain ⟨va', vc', rfl, _, _, _⟩ := h'.open
  have HV := Lib.hid h
  have HV' := Lib.hid h'
  clear h h'
  have HO := Lib.hid (fun W h h' => measured86_ok g hg h3 (dR g) (r_use g hg h3) (.slice va l.length vc) (.slice va' l'.length vc') l l' W h h' hw hw')
  clear hw hw'
  generalize dR g (folI g l) (folI g l') = FF at *
  generalize kd g = K at *
  generalize nm g = N at *
  go_enter Try.func52, Try.ntmps52
  go_wp2_with fail
  refine (HO.out _ (HV.out.alloc _) (HV'.out.alloc _)).mono ?_
  rintro e w1 ⟨a, c, rfl, hi, hb⟩
  clear HO
  go_wp2_with fail
  exact bodyPost_ret (results_tmp2 rfl _ _ _) rfl ⟨a, c, rfl, hi, bl1' hb⟩

theorem p_use (g : Nat) (hg : g < 17) (h3 : g ≠ 3) : ∀ W0 w T0 mb b1 b2 u x, u < nE g → x < nE g → Msr W0 w g T0 mb b1 b2 0 0 (.map []) (.map []) → Calls Try.prog 87 #[.pointer (some ⟨mb, 0, none⟩), .int .i64 (u : Nat), .int .i64 (x : Nat)] w fun e w' => ∃ a c, e = .returned (.slice a (dP g u x).length c) ∧ Ints w' (.slice a (dP g u x).length c) (dP g u x) ∧ Below W0.heap.size W0 w' := fun W0 w T0 mb b1 b2 u x hu hx hM => by
  have h48 := nE_le hg h3
  have h2 : 2 ^ (x - u) ≤ 2 ^ 48 := Nat.pow_le_pow_right (by omega) (by omega)
  have h2' : (2 : Nat) ^ 48 = 281474976710656 := by decide
  rw [h2'] at h2
  refine (p_any g hg h3 W0 T0 mb b1 b2 (x - u + 1) x u w 0 0 (.map []) (.map []) (by omega) hx hu hM (by omega) (by omega)).mono ?_
  rintro e w' ⟨a, c, n1, n2, D1, D2, he, hi, hM', _, _, _⟩
  exact ⟨a, c, he, hi, hM'.bel⟩
set_option maxHeartbeats 400000 in
theorem P_bad (k n : Int) (v v' : Value) (l l' : List Int) (w : World) (h : Ints w v l) (h' : Ints w v' l') (hb : Bad k n [l, l']) : Calls Try.prog 53 #[gV k n, v, v'] w fun e w' => e = .returned (.tuple #[.slice none 0 0, .int .i64 2]) ∧ Below w.heap.size w w' := by
  obtain ⟨va, vc, rfl, _, _, _⟩ := h.open
  obtain ⟨va', vc', rfl, _, _, _⟩ := h'.open
  have HV := Lib.hid h
  have HV' := Lib.hid h'
  clear h h'
  have HO := Lib.hid (fun W h h' => measured_bad k n (.slice va l.length vc) (.slice va' l'.length vc') (.func (.func 87) #[] #[]) l l' W h h' hb)
  clear hb
  go_enter Try.func53, Try.ntmps53
  go_wp2_with fail
  refine (HO.out _ (HV.out.alloc _) (HV'.out.alloc _)).mono ?_
  rintro e w1 ⟨rfl, hb⟩
  clear HO
  go_wp2_with fail
  exact bodyPost_ret (results_tmp2 rfl _ _ _) rfl ⟨rfl, bl1' hb⟩
set_option maxHeartbeats 400000 in
theorem P_size (v v' : Value) (l l' : List Int) (w : World) (h : Ints w v l) (h' : Ints w v' l') (hw : wordB 3 l = true) (hw' : wordB 3 l' = true) : Calls Try.prog 53 #[gV (kd 3) (nm 3), v, v'] w fun e w' => e = .returned (.tuple #[.slice none 0 0, .int .i64 6]) ∧ Below w.heap.size w w' := by
  obtain ⟨va, vc, rfl, _, _, _⟩ := h.open
  obtain ⟨va', vc', rfl, _, _, _⟩ := h'.open
  have HV := Lib.hid h
  have HV' := Lib.hid h'
  clear h h'
  have HO := Lib.hid (fun W h h' => measured_size (.slice va l.length vc) (.slice va' l'.length vc') (.func (.func 87) #[] #[]) l l' W h h' hw hw')
  clear hw hw'
  generalize kd 3 = K at *
  generalize nm 3 = N at *
  go_enter Try.func53, Try.ntmps53
  go_wp2_with fail
  refine (HO.out _ (HV.out.alloc _) (HV'.out.alloc _)).mono ?_
  rintro e w1 ⟨rfl, hb⟩
  clear HO
  go_wp2_with fail
  exact bodyPost_ret (results_tmp2 rfl _ _ _) rfl ⟨rfl, bl1' hb⟩
set_option maxHeartbeats 400000 in
theorem P_ok (g : Nat) (hg : g < 17) (h3 : g ≠ 3) (v v' : Value) (l l' : List Int) (w : World) (h : Ints w v l) (h' : Ints w v' l') (hw : wordB g l = true) (hw' : wordB g l' = true) : Calls Try.prog 53 #[gV (kd g) (nm g), v, v'] w fun e w' => ∃ a c, e = .returned (.tuple #[.slice a (dP g (folI g l) (folI g l')).length c, .int .i64 0]) ∧ Ints w' (.slice a (dP g (folI g l) (folI g l')).length c) (dP g (folI g l) (folI g l')) ∧ Below w.heap.size w w' := by
  obtain ⟨va, vc, rfl, _, _, _⟩ := h.open
  obtain ⟨va', vc', rfl, _, _, _⟩ := h'.open
  have HV := Lib.hid h
  have HV' := Lib.hid h'
  clear h h'
  have HO := Lib.hid (fun W h h' => measured87_ok g hg h3 (dP g) (p_use g hg h3) (.slice va l.length vc) (.slice va' l'.length vc') l l' W h h' hw hw')
  clear hw hw'
  generalize dP g (folI g l) (folI g l') = FF at *
  generalize kd g = K at *
  generalize nm g = N at *
  go_enter Try.func53, Try.ntmps53
  go_wp2_with fail
  refine (HO.out _ (HV.out.alloc _) (HV'.out.alloc _)).mono ?_
  rintro e w1 ⟨a, c, rfl, hi, hb⟩
  clear HO
  go_wp2_with fail
  exact bodyPost_ret (results_tmp2 rfl _ _ _) rfl ⟨a, c, rfl, hi, bl1' hb⟩
end Go.Proofs.Ytlnbodpdgebflaa
