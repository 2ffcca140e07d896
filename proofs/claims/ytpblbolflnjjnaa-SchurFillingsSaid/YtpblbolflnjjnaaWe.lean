/- fill: the walk -/
import Derived.Test.YtpblbolflnjjnaaWd
namespace Go.Proofs.Ytpblbolflnjjnaa
open Go.RowKit

set_option maxHeartbeats 1000000 in
theorem next_done (f : Fb) (I : List (List (List Int)) → World → (Nat → Prop) → Prop) (fid : Nat) (fcap : Array Value) (hv : Visit f I fid fcap)
    (hvo : Ints f.w0 f.vo (f.caps.map (fun (c : Nat) => (c : Int)))) (fuel : Nat)
    (rs : List (List Int)) (left : List Int) (acc : List (List (List Int))) (w : World) (fp : Nat → Prop) (hs : FillSt f w rs left) (hI : I acc w fp) (hd : ∀ k, fp k → ¬ f.mem k) (hM : acc.length < 16777216) :
    Calls Try.prog 106 (#[.int .i64 f.caps.length] ++ f.caught) w (NextPost f I rs left (acc ++ srch f.caps (fuel + 1) f.caps.length rs left) w fp) := by
  have hvo' := hvo.below hs.hbel (Nat.le_refl _)
  obtain ⟨ao, cap, he, h1, h2, hc⟩ := hvo'.open
  simp only [List.length_map] at he h1 h2
  have cO := cell_of_one hs.hO
  have cV := cell_of_one hs.hV
  have cR := cell_of_one hs.hR
  rw [he] at cO
  rw [hv.fv] at cV
  have hen := hv.enters
  have HF := hidIt (hv.fits acc w fp hI)
  have hcall := hv.call acc w fp rs left hs hI hd hM
  clear hM
  have e1 : srch f.caps (fuel + 1) f.caps.length rs left = [rs] := by simp [srch]
  rw [e1]
  have HC := hidIt hcall
  have HS := hidIt hs
  clear hvo hvo' hcall hs hc e1 he hv
  unfold Fb.caught pt
  go_enter Try.func106, Try.ntmps106
  go_wp2_with fail
  refine HC.out.mono ?_
  rintro e w' ⟨rfl, hq⟩
  have HQ := hidIt hq
  clear hq cO cV cR hen hI
  go_wp2
  go_end0
  obtain ⟨fp', q1, q2, q3⟩ := HQ.out
  refine ⟨rfl, fp', HS.out.mod q2 hd (fun k hk => (HF.out k hk).1), q1, ?_, q2.mono fun k hk => .inr hk, q3⟩
  intro k hk hm
  rcases q3 k hk with h | h
  · exact hd k h hm
  · have := HS.out.memlt hm
    omega

set_option maxHeartbeats 1000000 in
theorem next_full (f : Fb) (R : Ending → World → Prop) (hR : ∀ e w', R e w' → e = .returned (.tuple #[])) (hcl : f.caps.length = f.gs.length) (hvo : Ints f.w0 f.vo (f.caps.map (fun (c : Nat) => (c : Int))))
    (rs : List (List Int)) (left : List Int) (w : World) (hs : FillSt f w rs left) (i : Nat) (hi : i < f.gs.length) (hn : f.gs.length ≤ 100) (hfull : (rs.getD i []).length = f.caps.getD i 0)
    (hnext : Calls Try.prog 106 (#[.int .i64 ((i : Int) + 1)] ++ f.caught) w R) :
    Calls Try.prog 106 (#[.int .i64 i] ++ f.caught) w R := by
  have hvo' := hvo.below hs.hbel (Nat.le_refl _)
  obtain ⟨ao, cap, he, h1, h2, hc⟩ := hvo'.open
  simp only [List.length_map] at he h1 h2
  obtain ⟨b, o, rfl, hck⟩ := hc i (by simp; omega)
  have e0 : (List.map (fun (c : Nat) => (c : Int)) f.caps).getD i 0 = (f.caps.getD i 0 : Nat) := by
    have : i < f.caps.length := by omega
    simp [List.getD, this]
  rw [e0] at hck
  have cO := cell_of_one hs.hO
  have cR := cell_of_one hs.hR
  have cN := cell_of_one hs.hN
  obtain ⟨cRow, _⟩ := hs.rowCell hi
  rw [he] at cO
  unfold Fb.rowVal at cRow
  rw [hfull] at cRow
  unfold Fb.rowsVal at cR
  have HN := hidIt hnext
  have hcc : (f.caught.size) = 5 := rfl
  clear hvo hvo' hc e0 hnext
  generalize f.caps.getD i 0 = c at *
  generalize f.gs.getD i 0 = g at *
  rw [hcl] at cO h1 h2
  generalize f.gs.length = n at *
  unfold Fb.caught pt at *
  clear hs hfull hcc he hcl
  have hne : ((i : Int) == (n : Int)) = false := by simp; omega
  go_enter Try.func106, Try.ntmps106
  go_wp2_with fail
  refine HN.out.mono ?_
  intro e w' hq
  obtain rfl := hR e w' hq
  have HQ := hidIt hq
  clear hq cO cR cN cRow hck
  go_wp2
  go_end0
  exact HQ.out
end Go.Proofs.Ytpblbolflnjjnaa
