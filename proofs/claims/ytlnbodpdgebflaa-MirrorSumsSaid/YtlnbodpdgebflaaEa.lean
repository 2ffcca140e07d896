/- the reference: its points as tables; same, after -/
import Derived.Test.YtlnbodpdgebflaaOh
namespace Go.Proofs.Ytlnbodpdgebflaa
open Go.RowKit

def pnL : List Nat := [
  0x420,
  0x110402008211004008820,
  0x4430804300823004620880308062100230086100c22104030886008c021006100c41180221046008c401840210c011804110c20184401880118820,
  0x443204021900208c8008c4400444184401902018881008831002320043090020906018444004641002410c4100c8110c040880418460110201904101043100612080120c031048010c810088118c011100309040090620102218823010410106118804088640044400c610088118082080831048010c430048200c811008118c020900311020110610104118c01208032044020462200221886101041190020900318440204622002220c012080318404104640082400c440804318801208602044020c222002318044080641040410c240082318081100830888008c431040410c240082418044080630888008c82004821808110063090020906011020188620102219001110030904008c602082020c412004308c8008880184431048010c81008811808208063090400906201022180640804408c0218880088830048200c23200412006209060088622040220c202082300c8110081188041840219040090430048300823208202086101061100831002418820,
  0x806200443180221040300c410886010c0118820,
  0x1040520c40094640880428ca10088300823290a0088640804419482004a30940410c0110c85188202900508c44200411944401423080a41888500443184402144309404004a320865080440104309440214612900208c802846208c44014411948028c220106128082008832846410025280821840428c22088642808310405284622002329002188802840520c41190a008882184a009464100832840210c85004652004111065080851844028c82004a418820,
  0x80620044310c0118820,
  0x1040520c60090a2088a0190032044521443004a418820,
  0x18820398a410c0131c8520447014c328066090e2090e228066014c32044731c8510c01398a418820,
  0x20c4102507314a218028498e419022480e82984500d01324873048911c0540ce02a0660912209924388a01a007414c320449424c72144300528398a418820,
  0x290620816a4a0e6214430054b424c730c8112c0951d05388a01a8285992419824589203a8a811c0550d0132c89404cb2244701543480ea2a066091620a166490e22806a02547414c32044b52d0931c8510c015a928398a418820,
  0x314831040d62d4941ce4288600b1aa5a12629864089a05b12a3a087114036054d42cc940cc12344b0258751522380ac1a828699641a02669162480ec2a84901d8550d013348b5050d32c8911c0560d604b0ea2a066091a20a9a859924388a01b00b62547414c32044d6354b424c721443005ac5a928398a418820,
  0x398a4188207b9ac5a92831c8510c0173d8d52d09414c32044f035cb62547490e22806e0b1ea6a1662a066091e26816e4b0ea22447015c36054f434cb50d0133c8d12c0971d85589203b8ac1a828799a41a828799a4589203b8ac12c0971d8550d0133c8d6054f434cb22447015c36816e4b0ea2a066091e20b1ea6a166490e22806e035cb62547414c32044f73d8d52d0931c8510c017b9ac5a928398a418820,
  0x41cc520c410460f7358b52526390a2180308b9ec6a9683a0a619022881f06b96c4a8c921c4500e017458f5350b515033049113c0d82dc961d64488e02c06e0b22a7a1a62a86809a24789a05c12e3b08b12407815c36055143ccd60d41444cf2344b02607715a2581303b8ac1a828899e41b02a8a1e669162480f02b84d02e0971d8550d013448f7059153d0d32c8911c0580de06c16e4b0ea2a066092220ba2c7a9a859924388a01c00f835cb62547414c320451845cf6354b424c721443006307b9ac5a928398a418820,
  0x4a0e629062082728c1ee6b16a424c72144300653845cf6354b51d0530c8114c1193e0d72d8959924388a01c8309ba2c7a9a83a8a81982498a207c9b05b92c32c8911c0590e0174d9153d0d61543404d32444f0364b825c769162480f22c06e0b26a8a1e62b06a0a266891e2681724c0ee2344b02647815c360553444cf70d8154d1133c8d12c0991e05789a05c9303b8ac1a82899a241b82c9aa28799a4589203c8b013c0d92e0971d8550d0134c91805d36454f434cb2244701643881f26c16e4b0ea2a066092620c26e8b1ea6a166490e2280720464f835cb62547414c32045394e1173d8d52d0931c8510c019ca307b9ac5a928398a418820,
  0x525073148310415a4e5183dcd62d68498e4288600d2b29c22e7b1aa4a8e82986408aa09d2327c1ae5b10b3248711403a065584dd163d4d61d4540cc1254530468f9360b725a659122380b41c830aba6c8a9e83b0aa1a026a9262881f46c9704b8cd22c4901e8590e01755935450f715835051534c9113c0da2e4981de4689604d0f22c06e0b2aa9a2262b86c0aaa899a24789a05d1323c08f1340ba2647815c36055544cd180dc165553444cf2344b0268791622781b45c9303b8ac1a828a9a641c02eab26a8a1e669162480f42c85103e8d92e0971d8550d01354939061574d9153d0d32c8911c05a0e608d1f26c16e4b0ea2a066092a20cab09ba2c7a9a859924388a01d013a464f835cb62547414c320455a5653845cf6354b424c721443006b49ca307b9ac5a928398a418820,
  0x5a928398a418820bdab49ca307b9ac52d0931c8510c01b5e9594e1173d8d62547414c320457056d3a464f835cb6a166490e2280760d2f2ac26e8b1ea4b0ea2a066092e2a82768d1f26c16e434cb22447016c3a0657855d36454f71d8550d0135c9514c11b3e8d92e09799a4589203d8b41c830bbaac9aa283b8ac1a828b9aa498a207d9b45c93033c8d12c09b1e8590e0175d9554d11815c360557454d32444f036cba2647891e2681764d0f22c06e0b2eaaa2662c06e0b2eaaa266891e2681764d0f22444f036cba2647815c360557454d390e0175d9554d1133c8d12c09b1e8598a207d9b45c9303b8ac1a828b9aa41c830bbaac9aa28799a4589203d8b414c11b3e8d92e0971d8550d0135c95a0657855d36454f434cb22447016c3a82768d1f26c16e4b0ea2a066092e20d2f2ac26e8b1ea6a166490e228076056d3a464f835cb62547414c320457b5e9594e1173d8d52d0931c8510c01bdab49ca307b9ac5a928398a418820]
/-- how many points the reference moves -/
def np (g : Nat) : Nat := if kd g = 65 then nm g + 1 else 2 * nm g
/-- where element x takes the points -/
def pt (g x : Nat) : List Nat := (List.range (np g)).map fun p => pnL.getD g 0 / 2 ^ (5 * (x * np g + p)) % 32
/-- one behind the other -/
def aft (a s : List Nat) : List Nat := s.map fun x => a.getD x 0
def swL (l : List Nat) (i j : Nat) : List Nat := (l.set i (l.getD j 0)).set j (l.getD i 0)
/-- every second pair of a ring -/
def swI (n : Nat) : Nat → Nat → List Nat → List Nat
  | 0, _, l => l
  | f + 1, i, l => if i < n then swI n f (i + 2) (swL l i ((i + 1) % n)) else l
def mvM (g s : Nat) : List Nat :=
  let o := List.range (np g)
  if kd g = 73 then swI (np g) (np g) s o
  else if kd g = 66 ∧ s + 1 = nm g then swL o s (s + nm g)
  else if kd g = 66 then swL (swL o s (s + 1)) (s + nm g) (s + 1 + nm g) else swL o s (s + 1)
def chkP : Bool := (List.range 17).all fun g => decide (np g ≤ 24) && decide (0 < np g) && (pt g 0 == aft (mvM g 0) (mvM g 0)) && ((List.range (kM g)).all fun s => mvM g s == pt g (rt g 0 s)) && (List.range (nE g)).all fun x =>
  ((pt g x).all fun p => decide (p < np g)) && ((List.range (kM g)).all fun s => pt g (rt g x s) == aft (pt g x) (pt g (rt g 0 s))) && (List.range x).all fun y => pt g x != pt g y
theorem chkP_ok : chkP = true := by decide +kernel
theorem pg {g : Nat} (hg : g < 17) : np g ≤ 24 ∧ 0 < np g ∧ pt g 0 = aft (mvM g 0) (mvM g 0) ∧ ∀ s, s < kM g → mvM g s = pt g (rt g 0 s) := by
  have h := chkP_ok
  unfold chkP at h
  have h1 := List.all_eq_true.1 h g (List.mem_range.2 hg)
  simp only [Bool.and_eq_true, decide_eq_true_eq, beq_iff_eq, List.all_eq_true, List.mem_range] at h1
  obtain ⟨⟨⟨⟨a, b⟩, c⟩, d⟩, _⟩ := h1
  exact ⟨a, b, c, d⟩
theorem px {g x : Nat} (hg : g < 17) (hx : x < nE g) : (∀ p ∈ pt g x, p < np g) ∧ (∀ s, s < kM g → pt g (rt g x s) = aft (pt g x) (pt g (rt g 0 s))) ∧ ∀ y, y < x → pt g x ≠ pt g y := by
  have h := chkP_ok
  unfold chkP at h
  have h1 := List.all_eq_true.1 h g (List.mem_range.2 hg)
  rw [Bool.and_eq_true] at h1
  have h2 := List.all_eq_true.1 h1.2 x (List.mem_range.2 hx)
  simp only [Bool.and_eq_true, decide_eq_true_eq, bne_iff_ne, ne_eq, beq_iff_eq, List.all_eq_true, List.mem_range] at h2
  obtain ⟨⟨a, b⟩, c⟩ := h2
  exact ⟨a, b, c⟩
theorem pt_len (g x : Nat) : (pt g x).length = np g := by simp [pt]
theorem pt_ne {g x y : Nat} (hg : g < 17) (hx : x < nE g) (hy : y < nE g) (h : x ≠ y) : pt g x ≠ pt g y := by
  rcases Nat.lt_or_gt_of_ne h with h | h
  · exact fun e => (px hg hy).2.2 x h e.symm
  · exact (px hg hx).2.2 y h
theorem pt_bd {g x : Nat} (hg : g < 17) (hx : x < nE g) : ∀ p ∈ pt g x, p < 65536 := fun p hp => by
  have := (px hg hx).1 p hp
  have := (pg hg).1
  omega

set_option maxHeartbeats 1000000 in
theorem same_any (v v' : Value) (l l' : List Nat) (w : World) (h : Nats w v l) (h' : Nats w v' l') : Calls Try.prog 100 #[v, v'] w fun e w' => e = .returned (.bool (decide (l = l'))) ∧ w = w' := by
  obtain ⟨ao, cap, rfl, h1, h2, hx⟩ := Nats.open h
  obtain ⟨ao', cap', rfl, h1', h2', hx'⟩ := Nats.open h'
  have HX := Lib.hid hx
  have HX' := Lib.hid hx'
  clear h hx h' hx'
  obtain ⟨R, hR⟩ : ∃ R, R = decide (l = l') := ⟨_, rfl⟩
  rw [← hR]
  have HR := Lib.hid hR
  clear hR
  go_enter Try.func100, Try.ntmps100
  go_wp2
  go_loop [9] (fun i => ∃ k : Nat, k ≤ l.length ∧ i = .int .i64 k ∧ l.take k = l'.take k ∧ k ≤ l'.length) (fun i => l.length - (intOf i).toNat)
  case atStart => exact ⟨0, Nat.zero_le _, rfl, rfl, Nat.zero_le _⟩
  case round =>
    obtain ⟨k, hk, rfl, ht, hk'⟩ := hrel
    have HT := Lib.hid ht
    clear ht
    by_cases hlt : k < l.length
    · obtain ⟨b, o, rfl, hck⟩ := HX.out k hlt
      by_cases hlt' : k < l'.length
      · obtain ⟨b', o', rfl, hck'⟩ := HX'.out k hlt'
        by_cases he : l'.getD k 0 = l.getD k 0
        · have HS : Hid (l.take (k + 1) = l'.take (k + 1)) := Lib.hid (by rw [natT_snoc' _ _ hlt, natT_snoc' _ _ hlt', HT.out, he])

          rw [he] at hck'
          clear he
          generalize l.getD k 0 = z at *
          go_wp2
          go_round
          case rel => exact ⟨k + 1, by omega, by go_num, HS.out, hlt'⟩
          case measure => simp [intOf]; omega
        · have HE : Hid (R = false) := Lib.hid (by rw [HR.out]; exact decide_eq_false fun e => he (by rw [e]))
          have hne : ¬ ((l'.getD k 0 : Nat) : Int) = ((l.getD k 0 : Nat) : Int) := by omega
          clear he HR
          generalize l.getD k 0 = z at *
          generalize l'.getD k 0 = z' at *
          have hnb : ((z' : Int) != (z : Int)) = true := bne_iff_ne.2 hne
          go_wp2
          go_ret
          exact ⟨ret_bool HE.out.symm, rfl⟩
      · obtain rfl : k = l'.length := by omega
        have HE : Hid (R = false) := Lib.hid (by rw [HR.out]; exact decide_eq_false fun e => by rw [e] at hlt; omega)
        clear HR
        go_wp2
        go_ret
        exact ⟨ret_bool HE.out.symm, rfl⟩
    · obtain rfl : k = l.length := by omega
      have HE : Hid (R = decide (l.length = l'.length)) := Lib.hid (by
        rw [HR.out]
        refine decide_eq_decide.2 ⟨fun e => by rw [e], fun e => ?_⟩
        have := HT.out
        rw [List.take_length, e, List.take_length] at this
        exact this)
      clear HR
      go_wp2
      go_ret
      exact ⟨ret_bool (by rw [HE.out]; exact decide_eq_decide.2 (by omega)), rfl⟩

set_option maxHeartbeats 1000000 in
theorem after_any (v v' : Value) (a s : List Nat) (w : World) (h : Nats w v a) (h' : Nats w v' s) (hs : ∀ x ∈ s, x < a.length) (hb : ∀ x ∈ a, x < 65536) (hl : s.length ≤ 40) :
    Calls Try.prog 74 #[v, v'] w fun e w' => ∃ u, e = .returned u ∧ Bg w.heap.size w' u (aft a s) ∧ Below w.heap.size w w' := by
  obtain ⟨ao, cap, rfl, h1, h2, hx⟩ := Nats.open h
  obtain ⟨ao', cap', rfl, h1', h2', hx'⟩ := Nats.open h'
  have HX := Lib.hid hx
  have HX' := Lib.hid hx'
  have HS := Lib.hid hs
  have HBd := Lib.hid hb
  clear h hx h' hx' hs hb
  have hal : (aft a s).length = s.length := by simp [aft]
  unfold Bg
  rw [hal]
  obtain ⟨i0, hi, hz0, hz1, hz2⟩ := info_parts Try.info3
  go_enter Try.func74, Try.ntmps74
  go_wp2_with fail
  go_loopw [10, 5] (fun i u wr => ∃ k : Nat, k ≤ s.length ∧ i = .int .i64 k ∧ wr.ownsRow w.heap.size 3 1 u k (ints (nats (aft a (s.take k)))) ∧ Below w.heap.size w wr) (fun i _ _ => s.length - (intOf i).toNat)
  case atStart => exact ⟨0, Nat.zero_le _, rfl, World.ownsRow_nil _ _ _ _, Below.refl _ _⟩
  case round =>
    obtain ⟨k, hk, rfl, hu, hbl⟩ := hrel
    obtain ⟨ua, uc, rfl⟩ := owns_form hu
    have HU := Lib.hid hu
    have HB := Lib.hid hbl
    clear hu hbl
    by_cases hlt : k < s.length
    · obtain ⟨b', o', rfl, hck'⟩ := HX'.out k hlt
      have hxl := HS.out _ (natD_mem hlt)
      obtain ⟨b, o, rfl, hck⟩ := HX.out _ hxl
      have hz65 := HBd.out _ (natD_mem hxl)
      have c1 := ck hck' HB.out
      have c2 := ck hck HB.out
      have HE : Hid (ints (nats (aft a (s.take (k + 1)))) = ints (nats (aft a (s.take k))) ++ [.int .i64 (a.getD (s.getD k 0) 0 : Nat)]) := Lib.hid (by
        rw [natT_snoc' _ _ hlt]; simp [aft, ints, nats])
      clear hck hck'
      generalize a.getD (s.getD k 0) 0 = z at *
      generalize s.getD k 0 = x at *
      go_wp2_with (first | (at_builtin; refine wpList_append_own _ rfl _ _ 24 rfl w.heap.size 3 i0 (.int .i64 0) 1 8 Try.underlying24 hi hz0 hz1 hz2 rfl (by decide) _ _ _ rfl (HU.out.alloc _) ⟨wr.heap.size, 0, none⟩ 1 1 [.int .i64 (z : Nat)] rfl rfl (newOne _ _ _) (oneInt _) (by unfold maxLen; omega) (by omega) (by have := HB.out.size; simp; omega) ?_; intro v9 w9 hown9 hg9 _) | fail)
      have HO9 : Hid (w9.ownsRow w.heap.size 3 1 v9 (k + 1) (ints (nats (aft a (s.take (k + 1)))))) := Lib.hid (by rw [HE.out]; exact hown9)
      have HB9 : Hid (Below w.heap.size w w9) := Lib.hid ((HB.out.alloc HB.out.size _).grown hg9 (by have := HB.out.size; simp; omega) fun q e => (HU.out.lt q e).1)
      obtain ⟨a9, c9, rfl⟩ := owns_form hown9
      clear hown9 hg9
      go_roundw
      case rel => exact ⟨k + 1, by omega, by go_num, HO9.out, HB9.out⟩
      case measure => simp [intOf]; omega
    · obtain rfl : k = s.length := by omega
      have HE : Hid (wr.ownsRow w.heap.size 3 1 (.slice ua s.length uc) s.length (ints (nats (aft a s)))) := Lib.hid (by have := HU.out; rwa [List.take_length] at this)
      go_wp2_with fail
      go_ret
      exact ⟨_, rfl, HE.out, HB.out⟩

/-- Two places of a row are exchanged. -/
theorem swap_own {B : Nat} {W : World} {b c : Nat} {l : List Nat} (h : Bg B W (.slice (some ⟨b, 0, none⟩) l.length c) l) {i j : Nat}   :
    Bg B ((W.setCell ⟨b, i, none⟩ (.int .i64 (l.getD j 0 : Nat))).setCell ⟨b, j, none⟩ (.int .i64 (l.getD i 0 : Nat))) (.slice (some ⟨b, 0, none⟩) l.length c) (swL l i j) := by
  have e : (swL l i j).length = l.length := by simp [swL]
  unfold Bg
  rw [e]
  have h1 := (World.ownsRow.stored h i (.int .i64 (l.getD j 0 : Nat))).1
  have h2 := (World.ownsRow.stored h1 j (.int .i64 (l.getD i 0 : Nat))).1
  have e2 : ints (nats (swL l i j)) = ((ints (nats l)).set i (.int .i64 (l.getD j 0 : Nat))).set j (.int .i64 (l.getD i 0 : Nat)) := by
    simp [swL, ints, nats, List.map_set]
  rw [e2]
  exact h2
set_option maxHeartbeats 1000000 in
theorem swap99_any (B b c n i j : Nat) (I J : Int) (l : List Nat) (w : World) (h : Bg B w (.slice (some ⟨b, 0, none⟩) n c) l) (hn : l.length = n) (hi : i < n) (hj : j < n) (hne : i ≠ j) (hB : B ≤ b) (hl : n ≤ c) (hI : I = (i : Nat)) (hJ : J = (j : Nat)) :
    Calls Try.prog 99 #[.slice (some ⟨b, 0, none⟩) n c, .int .i64 I, .int .i64 J] w fun e w' => (∃ v, e = .returned v) ∧ Bg B w' (.slice (some ⟨b, 0, none⟩) n c) (swL l i j) ∧ Below B w w' ∧ ∀ k, k < B → w'.heap[k]? = w.heap[k]? := by
  subst hn hI hJ
  have HG := Lib.hid (swap_own (i := i) (j := j) h)
  have ci := own_cell h hi
  have cj := own_cell h hj
  have fi := World.ownsRow.frozenAt h i
  have fj := World.ownsRow.frozenAt h j
  have e1 : (ints (nats l)).getD i undef = .int .i64 (l.getD i 0 : Nat) := by simp [ints, nats, hi]
  have e2 : (ints (nats l)).getD j undef = .int .i64 (l.getD j 0 : Nat) := by simp [ints, nats, hj]
  rw [e1] at ci
  rw [e2] at cj
  have HB : Hid (∀ x y, Below B w ((w.setCell ⟨b, i, none⟩ x).setCell ⟨b, j, none⟩ y)) := Lib.hid fun x y => below_cell (below_cell (Below.refl _ _) hB x) hB y
  clear h e1 e2
  generalize l.getD i 0 = x at *
  generalize l.getD j 0 = y at *
  generalize l.length = n at *
  go_enter Try.func99, Try.ntmps99
  go_wp2_with fail
  exact end_none rfl rfl ⟨⟨_, rfl⟩, HG.out, HB.out _ _, fun k hk => (HB.out _ _).block k hk⟩

/-- The first n numbers. -/
theorem range_snoc (k : Nat) : List.range (k + 1) = List.range k ++ [k] := List.range_succ
theorem swL_len (l : List Nat) (i j : Nat) : (swL l i j).length = l.length := by simp [swL]
theorem swI_len (n : Nat) : ∀ (f i : Nat) (l : List Nat), (swI n f i l).length = l.length
  | 0, _, _ => rfl
  | f + 1, i, l => by unfold swI; split; · rw [swI_len n f]; exact swL_len _ _ _
                      · rfl
theorem kd_num {g : Nat} (hg : g < 17) : (kd g = 65 ∨ kd g = 66 ∨ kd g = 73) ∧ (kd g = 73 → 2 ≤ nm g) ∧ (kd g = 66 → 2 ≤ nm g) ∧ (kd g ≠ 73 → kM g = nm g) ∧ (kd g = 73 → kM g = 2) := by
  have : ∀ g < 17, (kd g = 65 ∨ kd g = 66 ∨ kd g = 73) ∧ (kd g = 73 → 2 ≤ nm g) ∧ (kd g = 66 → 2 ≤ nm g) ∧ (kd g ≠ 73 → kM g = nm g) ∧ (kd g = 73 → kM g = 2) := by decide +kernel
  exact this g hg
end Go.Proofs.Ytlnbodpdgebflaa
