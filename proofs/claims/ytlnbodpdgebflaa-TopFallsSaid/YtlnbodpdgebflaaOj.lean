/- without; Leave -/
import Derived.Test.YtlnbodpdgebflaaPl
import Derived.Test.YtlnbodpdgebflaaEf
import Derived.Test.YtlnbodpdgebflaaTk
namespace Go.Proofs.Ytlnbodpdgebflaa
open Go.RowKit

/-- A word without its letter k. -/
def wo_ (l : List Nat) (k : Nat) : List Nat := l.take k ++ l.drop (k + 1)
theorem wo_len (l : List Nat) (k : Nat) (h : k < l.length) : (wo_ l k).length = l.length - 1 := by simp [wo_]; omega
theorem wo_mem {l : List Nat} {k x : Nat} (h : x ∈ wo_ l k) : x ∈ l := by
  rcases List.mem_append.1 h with h | h
  · exact List.mem_of_mem_take h
  · exact List.mem_of_mem_drop h

/-- Nothing is put behind. -/
theorem wp_append_zero {P : Program} {w : World} {o : Oper} {a : Act} {K : Act → World → Prop} {Q : Exit → Act → World → Prop} (s x : Operand) (t : TypeId)
    (ho : o.op = .call { callee := .builtin .append, args := #[s, x], argTypes := #[t, t] }) (e : TypeId) (i : TypeInfo) (ht : P.underlying t = some (.slice e)) (hi : P.info? e = some i)
    (b off n cap : Nat) (hs : a.eval s = .slice (some ⟨b, off, none⟩) n cap) (hn : n ≤ cap) (ad : Addr) (c : Nat) (hx : a.eval x = .slice (some ad) 0 c)
    (h : K (a.put o.dst (.slice (some ⟨b, off, none⟩) n cap)) w) : o.wp P a w K Q := by
  have hr := run_append_room_cells (P := P) w t o.type e i ht hi b off n cap ad 0 c [] (by simp) (by simp) (by simp) hn (by simp) (by simp)
  have e0 : w.setCells b (off + n * i.size) [] = w := rfl
  rw [e0, Nat.add_zero] at hr
  unfold Oper.wp execOp
  simp only [ho, resolve, invoke, builtin, Sem.run_bind, Sem.run_pure, Result.andThen_ok, List.map_toArray, List.map_cons, List.map_nil, hs, hx, hr]
  exact h

set_option maxRecDepth 20000 in
set_option maxHeartbeats 1000000 in
theorem without_any (v : Value) (l : List Nat) (k : Nat) (w : World) (h : Nats w v l) (hk : k < l.length) (hl : l.length ≤ 40) (hb : ∀ x ∈ l, x < 65536) :
    Calls Try.prog 82 #[v, .int .i64 k] w fun e w' => ∃ a c, e = .returned (.slice a (l.length - 1) c) ∧ Nats w' (.slice a (l.length - 1) c) (wo_ l k) ∧ Below w.heap.size w w' := by
  obtain ⟨ao, cap, rfl, hcap, _, _⟩ := Nats.open h
  have HV := Lib.hid h
  have HBd := Lib.hid hb
  clear h hb
  have hne : ao ≠ none := fun e => by
    have := (Nats.cells HV.out).2.1 e
    rw [this] at hk; simp at hk
  obtain ⟨⟨ab, ao, ap⟩, rfl⟩ := Option.ne_none_iff_exists'.1 hne
  clear hne
  have hap : ap = none := by
    obtain ⟨_, _, e, _, _, hx⟩ := HV.out.open
    obtain ⟨b, o, e2, _⟩ := hx k hk
    cases e; cases e2; rfl
  subst hap
  have h1 : (0:Int) ≤ (k:Int) := by omega
  have h2 : (k:Int) ≤ (cap:Int) := by omega
  have h3 : ((k:Int) + 1) ≤ (l.length:Int) := by omega
  have h4 : (l.length:Int) ≤ (cap:Int) := by omega
  have h5 : (0:Int) ≤ (k:Int) + 1 := by omega
  have h6 : IntKind.i64.wrap ((k:Int) + 1) = (k:Int) + 1 := i64_of (by omega) (by omega)
  obtain ⟨i0, hi0, hz0, hz1, hz2⟩ := info_parts Try.info3
  obtain ⟨wz, hwz⟩ : ∃ wz, wz = w.drew := ⟨_, rfl⟩
  have HBz : Hid (Below w.heap.size w wz) := Lib.hid (by rw [hwz]; exact below_drew (Below.refl _ _))
  have HVz := Lib.hid (HV.out.below HBz.out (Nat.le_refl _))
  have HT := Lib.hid (Nats.take HVz.out (k := k) (by omega))
  have HD := Lib.hid (Nats.drop HVz.out (k := k + 1) (by omega))
  obtain ⟨xa, hxa⟩ : ∃ xa : Addr, (if cap = k + 1 then some (⟨ab, ao, none⟩ : Addr) else (some (⟨ab, ao, none⟩ : Addr)).map (·.add (k + 1))) = some xa := by
    by_cases e : cap = k + 1
    · exact ⟨_, if_pos e⟩
    · exact ⟨_, by rw [if_neg e]; rfl⟩
  rw [hxa] at HD
  simp only [Option.map_some, Addr.add_lit] at hxa
  go_enter Try.func82, Try.ntmps82
  go_wp2_with fail
  refine wp_region_held_drew (S := fun _ => True) (by kernel_rfl) trivial (fun hS0 => ?_)
  rw [← hwz]
  clear hwz
  refine tk0 (v := (.slice (some ⟨ab, ao, none⟩) l.length cap)) (by kernel_rfl) (by kernel_rfl) (by kernel_rfl) (fun _ _ _ h => h) (Or.inl ⟨by kernel_rfl, fun w' hSw => by go_simp⟩) hS0 ?_
  try simp only [Act.put, List.setIfInBounds_toArray, List.set_cons_zero, List.set_cons_succ]
  refine tk1 (v := (.int .i64 k)) (by kernel_rfl) (by kernel_rfl) (by kernel_rfl) (fun _ _ _ h => h) (Or.inl ⟨by kernel_rfl, fun w' hSw => by go_simp⟩) hS0 ?_
  try simp only [Act.put, List.setIfInBounds_toArray, List.set_cons_zero, List.set_cons_succ]
  refine tk2 (v := (.int .i64 k)) (by kernel_rfl) (by kernel_rfl) (by kernel_rfl) (fun _ _ _ h => h) (Or.inl ⟨by kernel_rfl, fun w' hSw => by go_simp⟩) hS0 ?_
  try simp only [Act.put, List.setIfInBounds_toArray, List.set_cons_zero, List.set_cons_succ]
  refine tk3 (v := (.slice (some ⟨ab, ao, none⟩) k k)) (by kernel_rfl) (by kernel_rfl) (by kernel_rfl) (fun _ _ _ h => h) (Or.inl ⟨by kernel_rfl, fun w' hSw => by go_simp⟩) hS0 ?_
  try simp only [Act.put, List.setIfInBounds_toArray, List.set_cons_zero, List.set_cons_succ]
  refine tk4 (v := (.slice (some ⟨ab, ao, none⟩) l.length cap)) (by kernel_rfl) (by kernel_rfl) (by kernel_rfl) (fun _ _ _ h => h) (Or.inl ⟨by kernel_rfl, fun w' hSw => by go_simp⟩) hS0 ?_
  try simp only [Act.put, List.setIfInBounds_toArray, List.set_cons_zero, List.set_cons_succ]
  refine tk5 (v := (.int .i64 k)) (by kernel_rfl) (by kernel_rfl) (by kernel_rfl) (fun _ _ _ h => h) (Or.inl ⟨by kernel_rfl, fun w' hSw => by go_simp⟩) hS0 ?_
  try simp only [Act.put, List.setIfInBounds_toArray, List.set_cons_zero, List.set_cons_succ]
  refine tk6 (v := (.int .i64 ((k : Int) + 1))) (by kernel_rfl) (by kernel_rfl) (by kernel_rfl) (fun _ _ _ h => h) (Or.inl ⟨by kernel_rfl, fun w' hSw => by go_simp⟩) hS0 ?_
  try simp only [Act.put, List.setIfInBounds_toArray, List.set_cons_zero, List.set_cons_succ]
  refine tk7 (v := (.slice (some xa) (l.length - (k + 1)) (cap - (k + 1)))) (by kernel_rfl) (by kernel_rfl) (by kernel_rfl) (fun _ _ _ h => h) (Or.inl ⟨by kernel_rfl, fun w' hSw => by go_simp⟩) hS0 ?_
  try simp only [Act.put, List.setIfInBounds_toArray, List.set_cons_zero, List.set_cons_succ]
  refine wpAnyH_ready (rs := [8]) (by kernel_rfl) (by simp) (AllReadyH.cons rfl (fun K hK => ?_) AllReadyH.nil)
  rw [if_pos (by kernel_rfl)]
  have hdl : (l.drop (k + 1)).length = l.length - (k + 1) := by simp
  have htl : (l.take k).length = k := by simp; omega
  by_cases hm : k + 1 < l.length
  · have hcd := Nats.cells HD.out
    have hct := Nats.cells HT.out
    refine wp_append_grows _ _ 24 rfl 3 i0 (.int .i64 0) 1 8 Try.underlying24 hi0 hz0 hz1 hz2 rfl (by decide) (some ⟨ab, ao, none⟩) k k (ints (nats (l.take k))) rfl (fun e => by cases e) (by rw [ints_length, nats_length, htl, Nat.mul_one]) hct.2.2
      xa (l.length - (k + 1)) (cap - (k + 1)) (ints (nats (l.drop (k + 1)))) rfl (by rw [ints_length, nats_length, hdl, Nat.mul_one]) (hcd.2.2 xa rfl) (fun u hu => by
        unfold ints at hu
        obtain ⟨z, _, rfl⟩ := List.mem_map.1 hu
        rfl) (by omega) (by unfold maxLen; omega) (by omega) ?_
    intro v9 w9 hown9 hg9
    have hwl := wo_len l k hk
    have hlen : k + (l.length - (k + 1)) = l.length - 1 := by omega
    have hcat : ints (nats (l.take k)) ++ ints (nats (l.drop (k + 1))) = ints (nats (wo_ l k)) := by simp [wo_, ints, nats]
    rw [hlen, hcat] at hown9
    have HN9 : Hid (Nats w9 v9 (wo_ l k)) := Lib.hid (Ints.of_owns (n := l.length - 1) hown9 (by omega) (nats_I64 fun x hx => HBd.out x (wo_mem hx)))
    have HB9 : Hid (Below w.heap.size w w9) := Lib.hid (HBz.out.grown hg9 HBz.out.size fun q e => by cases e)
    obtain ⟨a9, c9, rfl⟩ := owns_form hown9
    clear hown9 hg9 hcd hct
    refine hK.out _ _ trivial fun _ => ?_
    clear hK
    refine wpAnyH_ready (rs := [9]) (by kernel_rfl) (by simp) (AllReadyH.cons rfl (fun K hK => ?_) AllReadyH.nil)
    go_simp
    refine hK.out _ _ trivial fun _ => ?_
    refine wpAnyH_done (by kernel_rfl) ?_ _
    go_wp2_with fail
    go_ret
    exact ⟨_, _, rfl, HN9.out, HB9.out⟩
  · have hk1 : l.length - (k + 1) = 0 := by omega
    have hk2 : k = l.length - 1 := by omega
    have hwo : wo_ l k = l.take k := by unfold wo_; rw [List.drop_eq_nil_of_le (by omega), List.append_nil]
    rw [hk1]
    refine wp_append_zero _ _ 24 rfl 3 i0 Try.underlying24 hi0 ab ao k k rfl (Nat.le_refl _) xa _ rfl ?_
    refine hK.out _ _ trivial fun _ => ?_
    clear hK
    refine wpAnyH_ready (rs := [9]) (by kernel_rfl) (by simp) (AllReadyH.cons rfl (fun K hK => ?_) AllReadyH.nil)
    go_simp
    refine hK.out _ _ trivial fun _ => ?_
    refine wpAnyH_done (by kernel_rfl) ?_ _
    go_wp2_with fail
    go_ret
    rw [← hk2, hwo]
    refine ⟨_, _, rfl, ?_, HBz.out⟩
    obtain ⟨⟨xo, xc, e, q1, q2, q3, q4⟩, q5⟩ := HT.out
    simp only [Value.slice.injEq] at e
    obtain ⟨rfl, e2, rfl⟩ := e
    exact ⟨⟨_, k, by rw [← e2], by rw [← e2]; exact Nat.le_refl _, q2, by unfold maxLen at *; omega, q4⟩, q5⟩
end Go.Proofs.Ytlnbodpdgebflaa
