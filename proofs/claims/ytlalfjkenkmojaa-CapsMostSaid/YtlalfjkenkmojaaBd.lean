/- Greatest; a copied slice that the law owns; a card more -/
import Derived.Test.YtlalfjkenkmojaaGe
import Derived.Test.YtlalfjkenkmojaaSn
import Derived.Test.YtlalfjkenkmojaaCf
namespace Go.Proofs.Ytlalfjkenkmojaa
open Go.RowKit

set_option maxHeartbeats 1000000 in
theorem Greatest_bad (d : Int) (w : World) (h : d < 1 ∨ 3 < d) : Calls Try.prog 30 #[.int .i64 d] w fun e w' => e = .returned (.tuple #[.slice none 0 0, .int .i64 2]) ∧ Below w.heap.size w w' := by
  have HM := Lib.hid (isDeck_any d w)
  by_cases h4 : dimB d = true
  · rw [h4] at HM
    have h5 := of_decide_eq_true h4
    have h6 : 3 < d := by omega
    clear h4 h h5
    go_enter Try.func30, Try.ntmps30
    go_wp2_with fail
    refine HM.out.mono ?_
    rintro e w' ⟨rfl, rfl⟩
    go_wp2
    go_ret2
    exact ⟨rfl, Below.refl _ _⟩
  · have h4 : dimB d = false := by simpa using h4
    rw [h4] at HM
    clear h4 h
    go_enter Try.func30, Try.ntmps30
    go_wp2_with fail
    refine HM.out.mono ?_
    rintro e w' ⟨rfl, rfl⟩
    go_wp2
    go_ret2
    exact ⟨rfl, Below.refl _ _⟩
set_option maxHeartbeats 1000000 in
theorem Greatest_any (d : Nat) (w : World) (h1 : 1 ≤ d) (h3 : d ≤ 3) : Calls Try.prog 30 #[.int .i64 d] w fun e w' => ∃ v, e = .returned (.tuple #[v, .int .i64 0]) ∧ Nats w' v (greatN d) ∧ Below w.heap.size w w' := by
  have HM := Lib.hid (isDeck_any d w)
  rw [show dimB (d : Int) = true from decide_eq_true (by omega)] at HM
  have hp := p3 d (by omega)
  have HS := Lib.hid (fun w => size_any d w (by omega))
  have hb := fun w => between_any 0 (3 ^ d) w (Nat.zero_le _) (by omega)
  rw [Nat.sub_zero] at hb
  have HBt := Lib.hid hb
  have HLg := Lib.hid (fun v w (h : Nats w v (List.range' 0 (3 ^ d))) => longest_any (U := fun z => z ≤ 81) (mayRule d (by omega)) (mayB_mono d) (fun z hz => by omega) v (List.range' 0 (3 ^ d)) (by rw [List.length_range']; omega)
    (fun l y _ hl hy => ⟨hy, hl⟩) (fun z hz => by rw [List.mem_range'_1] at hz; omega) w h)
  have HV : Hid (longL (mayB d) (List.range' 0 (3 ^ d)) = greatN d) := Lib.hid rfl
  rw [HV.out] at HLg
  have HBd := Lib.hid (greatN_bd d)
  have HLe : Hid ((greatN d).length ≤ 3 ^ d) := Lib.hid (up_len (greatN_up d) (greatN_bd d))
  clear hb HV
  generalize greatN d = bs at *
  generalize 3 ^ d = s at *
  go_enter Try.func30, Try.ntmps30
  go_wp2_with fail
  refine HM.out.mono ?_
  rintro e w' ⟨rfl, rfl⟩
  go_wp2_with fail
  refine (HS.out _).mono ?_
  rintro e w' ⟨rfl, rfl⟩
  go_wp2_with fail
  refine (HBt.out _).mono ?_
  rintro e w1 ⟨v1, rfl, hv1, hb1⟩
  have HV1 := Lib.hid hv1
  have HB1 := Lib.hid hb1
  clear hv1 hb1
  go_wp2_with fail
  refine (HLg.out v1 w1 HV1.out).mono ?_
  rintro e w2 ⟨v2, rfl, ho2, hb2⟩
  have HB2 := Lib.hid (HB1.out.trans (hb2.mono HB1.out.size))
  have HN2 : Hid (Nats w2 v2 bs) := Lib.hid (Nats.of_owns ho2 (by have := HLe.out; omega) fun x hx => by have := HBd.out x hx; omega)
  clear ho2 hb2
  go_wp2
  go_ret2
  exact ⟨v2, rfl, HN2.out, HB2.out⟩

set_option maxHeartbeats 400000 in
theorem list_own (v : Value) (l : List Nat) (w : World) (h : Nats w v l) (hl : l.length ≤ 90) :
    Calls Try.prog 20 #[v] w fun e w' => ∃ a c, e = .returned (.slice a l.length c) ∧ w'.ownsRow w.heap.size 3 1 (.slice a l.length c) l.length (ints (nats l)) ∧ Below w.heap.size w w' := by
  obtain ⟨ao, cap, rfl, h1, h2, _⟩ := Nats.open h
  have ht := h.take (Nat.le_refl _)
  have HT' := clone1_any _ _ w ht
  rw [List.take_length, nats_length] at HT'
  have HT' := Lib.hid HT'
  have hm : min (l.length : Int) 90 = l.length := by omega
  have hm2 : min l.length 90 = l.length := by omega
  clear h ht
  go_enter Try.func20, Try.ntmps20
  go_wp2_with fail
  refine HT'.out.mono ?_
  rintro e w1 ⟨ao1, c1, rfl, hown, hb1⟩
  have HO := Lib.hid hown
  have HB1 := Lib.hid hb1
  clear hown hb1
  go_wp2
  go_ret
  exact ⟨_, _, rfl, HO.out, HB1.out⟩

/-- A card that is there is not free. -/
theorem free_in {d x : Nat} {l : List Nat} (hx : x < 3 ^ d) (h : x ∈ l) : (freeL d l).contains x = false := by
  rw [List.contains_eq_mem]
  refine decide_eq_false fun hm => ?_
  have := (mayB_iff d l x).1 (List.mem_filter.1 hm).2 x h
  rw [thirdN_self d x hx] at this
  exact this h
theorem free_out {d x : Nat} {l : List Nat} (hx : x < 3 ^ d) : (freeL d l).contains x = mayB d l x := by
  rw [List.contains_eq_mem, Bool.eq_iff_iff, decide_eq_true_eq]
  unfold freeL
  rw [List.mem_filter, List.mem_range'_1]
  exact ⟨fun h => h.2, fun h => ⟨by omega, h⟩⟩
theorem capS_perm {d : Nat} {l m : List Nat} (hp : List.Perm m l) (h : CapS d l) : CapS d m :=
  ⟨hp.nodup_iff.2 h.nd, fun x hx => h.bd x (hp.mem_iff.1 hx), fun a ha b hb hab hc => h.no a (hp.mem_iff.1 ha) b (hp.mem_iff.1 hb) hab (hp.mem_iff.1 hc)⟩
theorem capS_add {d x : Nat} {l : List Nat} (hx : x < 3 ^ d) (hn : x ∉ l) (h : CapS d l) : CapS d (l ++ [x]) ↔ mayB d l x = true := by
  rw [mayB_iff]
  constructor
  · intro hc a ha hm
    exact hc.no a (by simp [ha]) x (by simp) (fun e => hn (e ▸ ha)) (by simp [hm])
  · intro hm
    refine ⟨?_, ?_, ?_⟩
    · rw [List.nodup_append]
      exact ⟨h.nd, by simp, fun a ha b hb e => by simp at hb; subst hb; subst e; exact hn ha⟩
    · intro y hy
      rcases List.mem_append.1 hy with hy | hy
      · exact h.bd y hy
      · simp at hy; subst hy; exact hx
    · have key : ∀ a ∈ l, ∀ b ∈ l, a ≠ b → thirdN d a b ≠ x := fun a ha b hb _ e => hm a ha (by rw [← e, thirdN_back d a b (h.bd b hb)]; exact hb)
      have one : ∀ a ∈ l, thirdN d a x ≠ x := fun a ha e => by
        have := thirdN_eq d x a hx (h.bd a ha) (by rw [thirdN_comm]; exact e)
        exact hn (this ▸ ha)
      intro a ha b hb hab hc
      rw [List.mem_append, List.mem_singleton] at ha hb hc
      rcases ha with ha | rfl
      · rcases hb with hb | rfl
        · rcases hc with hc | hc
          · exact h.no a ha b hb hab hc
          · exact key a ha b hb hab hc
        · rcases hc with hc | hc
          · exact hm a ha hc
          · exact one a ha hc
      · rcases hb with hb | rfl
        · rw [thirdN_comm] at hc
          rcases hc with hc | hc
          · exact hm b hb hc
          · exact one b hb hc
        · exact hab rfl
theorem more_deck {d x : Nat} {l : List Nat} (hk : Deck d l) (hx : x < 3 ^ d) (hn : x ∉ l) : Deck d (sortN (l ++ [x])) := by
  refine ⟨sorted_up _ ?_, fun y hy => ?_⟩
  · rw [List.nodup_append]
    exact ⟨hk.1.imp fun h => by omega, by simp, fun a ha b hb e => by simp at hb; subst hb; subst e; exact hn ha⟩
  · rcases List.mem_append.1 (sortN_mem.1 hy) with hy | hy
    · exact hk.2 y hy
    · simp at hy; subst hy; exact hx
theorem more_cap {d x : Nat} {l : List Nat} (hk : Deck d l) (hx : x < 3 ^ d) (hn : x ∉ l) (hc : capB d l = true) : capB d (sortN (l ++ [x])) = mayB d l x := by
  have h1 := (keeps_capS hk).1 hc
  rw [Bool.eq_iff_iff]
  unfold capB
  rw [keeps_capS (more_deck hk hx hn), ← capS_add hx hn h1]
  exact ⟨fun h => capS_perm (List.mergeSort_perm _ _).symm h, fun h => capS_perm (List.mergeSort_perm _ _) h⟩
end Go.Proofs.Ytlalfjkenkmojaa
