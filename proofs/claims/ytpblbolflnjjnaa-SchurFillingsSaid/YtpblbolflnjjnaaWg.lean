/- fill: the recursion closed -/
import Derived.Test.YtpblbolflnjjnaaWf
namespace Go.Proofs.Ytpblbolflnjjnaa
open Go.RowKit

theorem nboxes_le : ∀ (rs : List (List Int)) (caps : List Nat), rs.length = caps.length → (∀ j, j < rs.length → (rs.getD j []).length ≤ caps.getD j 0) → nboxes rs ≤ caps.sum
  | [], [], _, _ => by simp [nboxes]
  | [], _ :: _, h, _ => by simp at h
  | _ :: _, [], h, _ => by simp at h
  | r :: rs, c :: caps, h, hj => by
    have ih := nboxes_le rs caps (by simpa using h) (fun j hlt => by simpa using hj (j + 1) (by simpa using hlt))
    have h0 := hj 0 (by simp)
    simp only [nboxes, List.map_cons, List.sum_cons] at *
    simp at h0
    omega

theorem nboxes_set (rs : List (List Int)) (i : Nat) (c : Int) (hi : i < rs.length) : nboxes (rs.set i (rs.getD i [] ++ [c])) = nboxes rs + 1 := by
  induction rs generalizing i with
  | nil => simp at hi
  | cons r rs ih =>
    cases i with
    | zero => simp [nboxes]; omega
    | succ i =>
      have := ih i (by simpa using hi)
      simp only [nboxes, List.set_cons_succ, List.map_cons, List.sum_cons, List.getD_cons_succ] at *
      omega

theorem FillSt.lens {f : Fb} {w : World} {rs : List (List Int)} {left : List Int} (h : FillSt f w rs left) (i : Nat) (hi : i < f.gs.length) : (rs.getD i []).length ≤ f.caps.getD i 0 := by
  obtain ⟨sp, h1, _⟩ := h.hgs i hi
  omega

def need (f : Fb) (i : Nat) (rs : List (List Int)) : Nat := f.gs.length - i + (f.caps.sum - nboxes rs)

theorem next_any (f : Fb) (I : List (List (List Int)) → World → (Nat → Prop) → Prop) (fid : Nat) (fcap : Array Value) (hv : Visit f I fid fcap)
    (hcl : f.caps.length = f.gs.length) (hvo : Ints f.w0 f.vo (f.caps.map (fun (c : Nat) => (c : Int)))) (hcaps : ∀ c ∈ f.caps, c ≤ 100) (hn : f.gs.length ≤ 100) :
    ∀ (fuel i : Nat) (rs : List (List Int)) (left : List Int) (acc : List (List (List Int))) (w : World) (fp : Nat → Prop), i ≤ f.gs.length → need f i rs < fuel → FillSt f w rs left → I acc w fp → (∀ k, fp k → ¬ f.mem k) → acc.length + (srch f.caps fuel i rs left).length ≤ 16777216 →
      Calls Try.prog 106 (#[.int .i64 i] ++ f.caught) w (NextPost f I rs left (acc ++ srch f.caps fuel i rs left) w fp) := by
  intro fuel
  induction fuel with
  | zero => intro i rs left acc w fp _ h; omega
  | succ fuel ih =>
    intro i rs left acc w fp hi hneed hs hI hd hM
    rcases Nat.lt_or_ge i f.gs.length with hlt | hge
    · have hlen := hs.lens i hlt
      rcases Nat.lt_or_ge (rs.getD i []).length (f.caps.getD i 0) with h | h
      · refine next_main f I fid fcap hv hcl hvo hcaps fuel rs left acc w fp hs hI hd i hlt hn h hM ?_
        intro c acc' w' fp' _ _ _ hs' hI' hd' hM'
        refine ih i _ _ acc' w' fp' hi ?_ hs' hI' hd' hM'
        have e := nboxes_set rs i (c : Int) (by rw [hs.hrs]; exact hlt)
        have hle := nboxes_le _ f.caps (by rw [hs'.hrs, hcl]) (fun j hj => hs'.lens j (by rw [← hs'.hrs]; exact hj))
        unfold need at hneed ⊢
        omega
      · have hfull : (rs.getD i []).length = f.caps.getD i 0 := by omega
        have e : srch f.caps (fuel + 1) i rs left = srch f.caps fuel (i + 1) rs left := by
          simp only [srch]
          rw [if_neg (by omega), if_pos hfull]
        rw [e] at hM ⊢
        refine next_full f _ (fun e w' h => h.1) hcl hvo rs left w hs i hlt hn hfull ?_
        exact_mod_cast ih (i + 1) rs left acc w fp (by omega) (by unfold need at hneed ⊢; omega) hs hI hd hM
    · obtain rfl : i = f.caps.length := by omega
      exact next_done f I fid fcap hv hvo fuel rs left acc w fp hs hI hd (by simp [srch] at hM; omega)
end Go.Proofs.Ytpblbolflnjjnaa
