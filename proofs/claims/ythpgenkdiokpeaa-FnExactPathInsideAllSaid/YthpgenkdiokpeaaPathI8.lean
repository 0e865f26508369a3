/- The program's points inside, asked of all points of a box: of rows. -/
import Derived.Test.YthpgenkdiokpeaaIns
import Derived.Test.YthpgenkdiokpeaaInsS
namespace Go.Proofs.Ythpgenkdiokpeaa
open Go.RowKit Go.Sort Go.Lib

theorem loN_cgr {f g : Nat → Int} : ∀ {k : Nat}, (∀ i, i < k → f i = g i) → loN f k = loN g k
  | 0, _ => rfl
  | k + 1, h => by rw [loN, loN, loN_cgr fun i hi => h i (by omega), h k (by omega)]
theorem hiN_cgr {f g : Nat → Int} : ∀ {k : Nat}, (∀ i, i < k → f i = g i) → hiN f k = hiN g k
  | 0, _ => rfl
  | k + 1, h => by rw [hiN, hiN, hiN_cgr fun i hi => h i (by omega), h k (by omega)]
theorem insR_cor {l : List Pt} (hc : tot l = (0, 0)) : insR (corL l) = insF l := by
  funext x y
  rw [Bool.eq_iff_iff]
  unfold insR insF lftB
  rw [List.all_eq_true, List.all_eq_true, corL_len]
  constructor
  · intro h i hi
    have := h i hi
    rw [List.mem_range] at hi
    unfold lfR stp at this
    rwa [stp_cor hc hi, corL_at hi] at this
  · intro h i hi
    have := h i hi
    rw [List.mem_range] at hi
    unfold lfR stp
    rwa [stp_cor hc hi, corL_at hi]

set_option maxRecDepth 100000 in
set_option maxHeartbeats 4000000 in
theorem pathInsideAll_any (A : Option Addr) (n c : Nat) (L : List (List Int)) (w : World) (h : RdM w A n L) (hs : SmallM L) :
    Calls Try.prog 59 #[.slice A n c] w fun e w' => e = .returned (.tuple #[.int .i64 (ifG L allI), .bool (goodB L)]) ∧ Below w.heap.size w w' := by
  have hI := convexOf_any A n c L w h hs
  rw [show (pathB L && convB (ptsL L)) = goodB L from rfl] at hI
  cases hp : goodB L with
  | true =>
    rw [ifG_yes allI hp]
    obtain ⟨hP, _⟩ := pathB_true (L := L) (by simp only [goodB, Bool.and_eq_true] at hp; exact hp.1)
    have e1 : loN (fun i => (atP (corL (ptsL L)) i).1) (corL (ptsL L)).length = loN (cxN (ptsL L)) (ptsL L).length := by
      rw [corL_len]; exact loN_cgr fun i hi => by rw [corL_at hi]
    have e2 : loN (fun i => (atP (corL (ptsL L)) i).2) (corL (ptsL L)).length = loN (cyN (ptsL L)) (ptsL L).length := by
      rw [corL_len]; exact loN_cgr fun i hi => by rw [corL_at hi]
    have e3 : hiN (fun i => (atP (corL (ptsL L)) i).1) (corL (ptsL L)).length = hiN (cxN (ptsL L)) (ptsL L).length := by
      rw [corL_len]; exact hiN_cgr fun i hi => by rw [corL_at hi]
    have e4 : hiN (fun i => (atP (corL (ptsL L)) i).2) (corL (ptsL L)).length = hiN (cyN (ptsL L)) (ptsL L).length := by
      rw [corL_len]; exact hiN_cgr fun i hi => by rw [corL_at hi]
    have hbx := hP.box_bd (Nat.le_refl _)
    have hA := fun W gs (hR : Ring W gs (corL (ptsL L))) => askInside_any gs (corL (ptsL L)) W _ _ _ _ hR (by rw [corL_len]; have := hP.hi; omega) (by rw [corL_at (by have := hP.lo; omega), cor_zero]) (fun i hi => by have := cor_box hP i hi; omega) e1 e2 e3 e4 hbx.1.1 hbx.2.1 hbx.1.2 hbx.2.2
    rw [insR_cor hP.closed, allP_box hP] at hA
    rw [show ((allPt (ptsL L) : Nat) : Int) = allI (ptsL L) from rfl] at hA
    have HA := Lib.hid hA
    rw [hp] at hI
    generalize allI (ptsL L) = z at *
    clear h hs hp hP hA e1 e2 e3 e4 hbx
    go_enter Try.func59, Try.ntmps59
    go_wp2_with fail
    refine hI.mono ?_
    rintro e w1 ⟨⟨v, rfl, hv⟩, b1⟩
    obtain ⟨gs, rfl, hR, _⟩ := hv (by first | rfl | trivial)
    have HR := Lib.hid hR
    clear hv hR
    go_wp2_with fail
    refine (HA.out _ gs HR.out).mono ?_
    rintro e w2 ⟨rfl, b2⟩
    go_wp2_with fail
    refine bodyPost_ret (results_tmp2 rfl _ _ _) rfl ?_
    exact ⟨rfl, below_then b1 b2⟩
  | false =>
    rw [ifG_no allI hp]
    rw [hp] at hI
    clear h hs hp
    go_enter Try.func59, Try.ntmps59
    go_wp2_with fail
    refine hI.mono ?_
    rintro e w1 ⟨⟨v, rfl, _⟩, b1⟩
    go_wp2_with fail
    refine bodyPost_ret (results_tmp2 rfl _ _ _) rfl ?_
    exact ⟨rfl, b1⟩
end Go.Proofs.Ythpgenkdiokpeaa
