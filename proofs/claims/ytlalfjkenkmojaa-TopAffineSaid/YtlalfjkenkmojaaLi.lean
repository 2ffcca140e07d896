/- longest -/
import Derived.Test.YtlalfjkenkmojaaLh
namespace Go.Proofs.Ytlalfjkenkmojaa
open Go.RowKit

theorem grow_any {N : Nat} {pre : Array Value} {f : List Nat → Nat → Bool} {D : List Nat → Nat → Prop} {U : Nat → Prop} {M : Nat} (hR : Rule N pre f D) (hm : Mono f) (hU : ∀ z, U z → z < 65536) (hM : M ≤ 1000)
    (hD : ∀ l y, l.length < M → (∀ z ∈ l, U z) → U y → D l y) (Bl Bb Bg Bm base : Nat) (hd : Bl ≠ Bb ∧ Bl ≠ Bg ∧ Bl ≠ Bm ∧ Bb ≠ Bg ∧ Bb ≠ Bm) (hlt : Bl < base ∧ Bb < base ∧ Bg < base ∧ Bm < base) (n : Nat) :
    ∀ (rest l best : List Nat) (vr vl vb : Value) (w : World), rest.length ≤ n → l.length + rest.length ≤ M → (∀ z ∈ rest, U z ∧ f l z = true) → (∀ z ∈ l, U z) → base ≤ w.heap.size → LEnv w N pre Bl Bb Bg Bm → LSt w Bl Bb base vl vb l best → Nats w vr rest → OffB vr (LS Bl Bb vl) →
      Calls Try.prog 95 #[vr, .pointer (some ⟨Bl, 0, none⟩), .pointer (some ⟨Bb, 0, none⟩), .pointer (some ⟨Bg, 0, none⟩), .pointer (some ⟨Bm, 0, none⟩)] w (LPost Bl Bb base l (seek f rest l (upd best l)) vl w) := by
  induction n with
  | zero => exact fun rest l best vr vl vb w hn hlen hr hl hb hE hS hN hO => grow_step hR hm hU hM hD Bl Bb Bg Bm base hd hlt 0 (fun _ _ _ _ _ _ _ h => absurd h (by omega)) rest l best vr vl vb w hn hlen hr hl hb hE hS hN hO
  | succ n ih => exact fun rest l best vr vl vb w hn hlen hr hl hb hE hS hN hO => grow_step hR hm hU hM hD Bl Bb Bg Bm base hd hlt (n + 1) (fun rest l best vr vl vb w h => ih rest l best vr vl vb w (by omega)) rest l best vr vl vb w hn hlen hr hl hb hE hS hN hO

/-- The boxes of longest. -/
abbrev lg4 (w : World) (fv : Value) : World := (((w.alloc (.cells #[fv] 86)).alloc (.cells #[.slice none 0 0] 22)).alloc (.cells #[.slice none 0 0] 22)).alloc
  (.cells #[.func (.func 95) #[] #[.pointer (some ⟨w.heap.size + 1 + 1, 0, none⟩), .pointer (some ⟨w.heap.size + 1, 0, none⟩), .pointer (some ⟨w.heap.size + 1 + 1 + 1, 0, none⟩), .pointer (some ⟨w.heap.size, 0, none⟩)]] 54)
theorem lg4_c (w : World) (N : Nat) (pre : Array Value) : LEnv (lg4 w (.func (.func N) pre #[])) N pre (w.heap.size + 1 + 1) (w.heap.size + 1) (w.heap.size + 1 + 1 + 1) w.heap.size ∧
    LSt (lg4 w (.func (.func N) pre #[])) (w.heap.size + 1 + 1) (w.heap.size + 1) (w.heap.size + 1 + 1 + 1 + 1) (.slice none 0 0) (.slice none 0 0) [] [] ∧ Below w.heap.size w (lg4 w (.func (.func N) pre #[])) ∧ (lg4 w (.func (.func N) pre #[])).heap.size = w.heap.size + 1 + 1 + 1 + 1 := by
  have b0 := Box.new 86 w (.func (.func N) pre #[])
  have b1 := Box.new 22 (w.alloc (.cells #[.func (.func N) pre #[]] 86)) (.slice none 0 0)
  have b2 := Box.new 22 ((w.alloc (.cells #[.func (.func N) pre #[]] 86)).alloc (.cells #[.slice none 0 0] 22)) (.slice none 0 0)
  have b3 := Box.new 54 (((w.alloc (.cells #[.func (.func N) pre #[]] 86)).alloc (.cells #[.slice none 0 0] 22)).alloc (.cells #[.slice none 0 0] 22))
    (.func (.func 95) #[] #[.pointer (some ⟨w.heap.size + 1 + 1, 0, none⟩), .pointer (some ⟨w.heap.size + 1, 0, none⟩), .pointer (some ⟨w.heap.size + 1 + 1 + 1, 0, none⟩), .pointer (some ⟨w.heap.size, 0, none⟩)])
  simp only [World.size_alloc] at b0 b1 b2 b3
  refine ⟨⟨((b0.alloc _).alloc _).alloc _, b3⟩, ⟨b2.alloc _, (b1.alloc _).alloc _, World.ownsRow_nil _ _ _ _, World.ownsRow_nil _ _ _ _, fun b hb => by simp [Value.ownBlock] at hb⟩, ?_, by simp only [World.size_alloc]⟩
  exact ((((Below.refl _ w).alloc (Nat.le_refl _) _).alloc (by simp) _).alloc (by simp; omega) _).alloc (by simp; omega) _

set_option maxHeartbeats 4000000 in
set_option maxRecDepth 100000 in
theorem longest_any {N : Nat} {pre : Array Value} {f : List Nat → Nat → Bool} {D : List Nat → Nat → Prop} {U : Nat → Prop} (hR : Rule N pre f D) (hm : Mono f) (hU : ∀ z, U z → z < 65536) (v : Value) (ns : List Nat) (hM : ns.length ≤ 1000)
    (hD : ∀ l y, l.length < ns.length → (∀ z ∈ l, U z) → U y → D l y) (hns : ∀ z ∈ ns, U z) (w : World) (hN : Nats w v ns) :
    Calls Try.prog 70 #[.func (.func N) pre #[], v] w fun e w' => ∃ v', e = .returned v' ∧ w'.ownsRow w.heap.size 3 1 v' (longL f ns).length (ints (nats (longL f ns))) ∧ Below w.heap.size w w' := by
  obtain ⟨hE, hS, hB, hsz⟩ := lg4_c w N pre
  have HNl := Lib.hid (hN.below hB (Nat.le_refl _))
  have hc65 := addable_any hR (.slice none 0 0) v [] ns (lg4 w (.func (.func N) pre #[])).drew (Nats.nil _) HNl.out hM (fun x hx => hU x (hns x hx)) (fun x hx => hD _ _ (by have := List.length_pos_of_mem hx; simpa using this) (by simp) (hns x hx))
  have hfl : (ns.filter (f [])).length ≤ ns.length := List.length_filter_le _ _
  have HC65 := Lib.hid hc65
  have HLo : Hid (seek f (ns.filter (f [])) [] (upd [] []) = longL f ns) := Lib.hid (by
    rw [seek_filter hm ns [] _ _ (fun _ h => h)]; rfl)
  have HC95 : Hid (∀ v5 w5, w5.ownsRow (lg4 w (.func (.func N) pre #[])).drew.heap.size 3 1 v5 (ns.filter (f [])).length (ints (nats (ns.filter (f [])))) → Below (lg4 w (.func (.func N) pre #[])).drew.heap.size (lg4 w (.func (.func N) pre #[])).drew w5 →
      Calls Try.prog 95 #[v5, .pointer (some ⟨w.heap.size + 1 + 1, 0, none⟩), .pointer (some ⟨w.heap.size + 1, 0, none⟩), .pointer (some ⟨w.heap.size + 1 + 1 + 1, 0, none⟩), .pointer (some ⟨w.heap.size, 0, none⟩)] w5 (LPost (w.heap.size + 1 + 1) (w.heap.size + 1) (w.heap.size + 1 + 1 + 1 + 1) [] (longL f ns) (.slice none 0 0) w5)) := Lib.hid (by
    intro v5 w5 ho5 hb5
    have hsz5 : w.heap.size + 1 + 1 + 1 + 1 ≤ w5.heap.size := by have h1 : (lg4 w (.func (.func N) pre #[])).heap.size ≤ w5.heap.size := hb5.size; rw [hsz] at h1; exact h1
    have hm5 : Mod (fun _ => False) (lg4 w (.func (.func N) pre #[])) w5 := ⟨hb5.os, hb5.tape, hb5.output, hb5.size, fun i hi _ => hb5.block i hi⟩
    have := grow_any (M := ns.length) hR hm hU hM hD (w.heap.size + 1 + 1) (w.heap.size + 1) (w.heap.size + 1 + 1 + 1) w.heap.size (w.heap.size + 1 + 1 + 1 + 1) (by omega) (by omega) _ (ns.filter (f [])) [] [] v5 (.slice none 0 0) (.slice none 0 0) w5 (Nat.le_refl _) (by simpa using hfl)
      (fun z hz => ⟨hns z (List.mem_filter.1 hz).1, (List.mem_filter.1 hz).2⟩) (by simp) hsz5 (hE.mod hm5 id id)
      ⟨hS.cl.mod hm5 id, hS.cb.mod hm5 id, owns_mod hS.ol hm5 fun _ _ => id, owns_mod hS.ob hm5 fun _ _ => id, hS.apart⟩
      (Nats.of_owns ho5 (by omega) fun y hy => hU y (hns y (List.mem_filter.1 hy).1)) (offB_own ho5 fun g hg hk => by
        have hge : w.heap.size + 1 + 1 + 1 + 1 ≤ g := by have h1 := (ho5.lt g hg).1; have h2 : (lg4 w (.func (.func N) pre #[])).heap.size ≤ g := h1; rw [hsz] at h2; exact h2
        rcases hk with e | e | e
        · omega
        · omega
        · simp [Value.ownBlock] at e)
    rwa [HLo.out] at this)
  have c4g := hE.cg.cell
  have c4m := hE.cm.cell
  have HB := Lib.hid hB
  have HSz := Lib.hid hsz
  have HAft : Hid (∀ w5 w6, Below (lg4 w (.func (.func N) pre #[])).drew.heap.size (lg4 w (.func (.func N) pre #[])).drew w5 → (∃ vl' vb', LSt w6 (w.heap.size + 1 + 1) (w.heap.size + 1) (w.heap.size + 1 + 1 + 1 + 1) vl' vb' [] (longL f ns) ∧ Moved (.slice none 0 0) vl' w5.heap.size ∧ Mod (LS (w.heap.size + 1 + 1) (w.heap.size + 1) (.slice none 0 0)) w5 w6) →
      ∃ vb', Box 22 w6 (w.heap.size + 1) vb' ∧ w6.ownsRow w.heap.size 3 1 vb' (longL f ns).length (ints (nats (longL f ns))) ∧ Below w.heap.size w w6) := Lib.hid (by
    rintro w5 w6 hb5 ⟨vl', vb', h1, _, h3⟩
    refine ⟨vb', h1.cb, owns_mono h1.ob (by omega), ?_⟩
    have hb' : Below w.heap.size w w5 := HB.out.trans ((show Below (lg4 w (.func (.func N) pre #[])).heap.size (lg4 w (.func (.func N) pre #[])) w5 from ⟨hb5.os, hb5.tape, hb5.output, hb5.size, hb5.block⟩).mono HB.out.size)
    refine hb'.trans (h3.below hb'.size fun k hk => ?_)
    rcases hk with e | e | e
    · omega
    · omega
    · simp [Value.ownBlock] at e)
  clear hE hS hB hsz hc65 hfl hR hm hU hD hns hN hM HNl HLo
  go_enter Try.func70, Try.ntmps70
  go_wp2_with fail
  dsimp only [lg4] at *
  generalize (((w.alloc (.cells #[.func (.func N) pre #[]] 86)).alloc (.cells #[.slice none 0 0] 22)).alloc (.cells #[.slice none 0 0] 22)).alloc
    (.cells #[.func (.func 95) #[] #[.pointer (some ⟨w.heap.size + 1 + 1, 0, none⟩), .pointer (some ⟨w.heap.size + 1, 0, none⟩), .pointer (some ⟨w.heap.size + 1 + 1 + 1, 0, none⟩), .pointer (some ⟨w.heap.size, 0, none⟩)]] 54) = w4 at *
  refine wp_region_any (by kernel_rfl) ?_
  change wpAny _ _ _ _ _ _ _ (World.drew _)
  refine wpAny_take (i := 2) (v := v) rfl (by kernel_rfl) (by kernel_rfl) (by kernel_rfl) (fun _ _ _ h => h) (Or.inl ⟨by rfl, ?_⟩) ?_
  · intro w'
    go_simp
  simp only [Act.put]
  refine wpAny_ready (rs := [0, 1]) (by kernel_rfl) (by simp) (AllReady.cons rfl (fun K hK => ?_) (AllReady.cons rfl (fun K hK => ?_) AllReady.nil))
  · go_simp
    refine hK _ _ ?_
    clear hK K
    refine wpAny_ready (rs := [1]) (by kernel_rfl) (by simp) (AllReady.cons rfl (fun K hK => ?_) AllReady.nil)
    go_simp
    refine hK _ _ ?_
    clear hK K
    refine wpAny_ready (rs := [3]) (by kernel_rfl) (by simp) (AllReady.cons rfl (fun K hK => ?_) AllReady.nil)
    rw [if_pos (by rfl)]
    go_simp
    refine HC65.out.mono ?_
    rintro e w5 ⟨v5, rfl, ho5, hb5⟩
    have HC9 := Lib.hid (HC95.out v5 w5 ho5 hb5)
    have HB5 := Lib.hid hb5
    have hg5 := ck (show w4.drew.cell? ⟨w.heap.size + 1 + 1 + 1, 0, none⟩ = _ from c4g) hb5
    clear ho5 hb5
    refine hK _ _ ?_
    clear hK K
    refine wpAny_ready (rs := [4]) (by kernel_rfl) (by simp) (AllReady.cons rfl (fun K hK => ?_) AllReady.nil)
    rw [if_pos (by rfl)]
    go_simp
    refine HC9.out.mono ?_
    rintro e w6 ⟨rfl, hp6⟩
    obtain ⟨vb, hbx, hob, hbw⟩ := HAft.out _ _ HB5.out hp6
    have HOb := Lib.hid hob
    have HBw := Lib.hid hbw
    have hcell := hbx.cell
    clear hp6 hob hbw hbx
    refine hK _ _ ?_
    clear hK K
    refine wpAny_done (by kernel_rfl) ?_ _
    go_wp2
    go_ret
    exact ⟨_, rfl, HOb.out, HBw.out⟩
  · go_simp
    refine hK _ _ ?_
    clear hK K
    refine wpAny_ready (rs := [0, 3]) (by kernel_rfl) (by simp) (AllReady.cons rfl (fun K hK => ?_) (AllReady.cons rfl (fun K hK => ?_) AllReady.nil))
    · go_simp
      refine hK _ _ ?_
      clear hK K
      refine wpAny_ready (rs := [3]) (by kernel_rfl) (by simp) (AllReady.cons rfl (fun K hK => ?_) AllReady.nil)
      rw [if_pos (by rfl)]
      go_simp
      refine HC65.out.mono ?_
      rintro e w5 ⟨v5, rfl, ho5, hb5⟩
      have HC9 := Lib.hid (HC95.out v5 w5 ho5 hb5)
      have HB5 := Lib.hid hb5
      have hg5 := ck (show w4.drew.cell? ⟨w.heap.size + 1 + 1 + 1, 0, none⟩ = _ from c4g) hb5
      clear ho5 hb5
      refine hK _ _ ?_
      clear hK K
      refine wpAny_ready (rs := [4]) (by kernel_rfl) (by simp) (AllReady.cons rfl (fun K hK => ?_) AllReady.nil)
      rw [if_pos (by rfl)]
      go_simp
      refine HC9.out.mono ?_
      rintro e w6 ⟨rfl, hp6⟩
      obtain ⟨vb, hbx, hob, hbw⟩ := HAft.out _ _ HB5.out hp6
      have HOb := Lib.hid hob
      have HBw := Lib.hid hbw
      have hcell := hbx.cell
      clear hp6 hob hbw hbx
      refine hK _ _ ?_
      clear hK K
      refine wpAny_done (by kernel_rfl) ?_ _
      go_wp2
      go_ret
      exact ⟨_, rfl, HOb.out, HBw.out⟩
    · rw [if_pos (by rfl)]
      go_simp
      refine HC65.out.mono ?_
      rintro e w5 ⟨v5, rfl, ho5, hb5⟩
      have HC9 := Lib.hid (HC95.out v5 w5 ho5 hb5)
      have HB5 := Lib.hid hb5
      have hg5 := ck (show w4.drew.cell? ⟨w.heap.size + 1 + 1 + 1, 0, none⟩ = _ from c4g) hb5
      clear ho5 hb5
      refine hK _ _ ?_
      clear hK K
      refine wpAny_ready (rs := [0]) (by kernel_rfl) (by simp) (AllReady.cons rfl (fun K hK => ?_) AllReady.nil)
      go_simp
      refine hK _ _ ?_
      clear hK K
      refine wpAny_ready (rs := [4]) (by kernel_rfl) (by simp) (AllReady.cons rfl (fun K hK => ?_) AllReady.nil)
      rw [if_pos (by rfl)]
      go_simp
      refine HC9.out.mono ?_
      rintro e w6 ⟨rfl, hp6⟩
      obtain ⟨vb, hbx, hob, hbw⟩ := HAft.out _ _ HB5.out hp6
      have HOb := Lib.hid hob
      have HBw := Lib.hid hbw
      have hcell := hbx.cell
      clear hp6 hob hbw hbx
      refine hK _ _ ?_
      clear hK K
      refine wpAny_done (by kernel_rfl) ?_ _
      go_wp2
      go_ret
      exact ⟨_, rfl, HOb.out, HBw.out⟩
end Go.Proofs.Ytlalfjkenkmojaa
