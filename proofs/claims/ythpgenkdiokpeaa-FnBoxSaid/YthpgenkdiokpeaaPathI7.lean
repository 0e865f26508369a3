/- The program's boxes of paths. -/
import Derived.Test.YthpgenkdiokpeaaBox
import Derived.Test.YthpgenkdiokpeaaBoxS
import Derived.Test.YthpgenkdiokpeaaPathI1
namespace Go.Proofs.Ythpgenkdiokpeaa
open Go.RowKit Go.Sort Go.Lib

theorem loN_congr {f g : Nat → Int} : ∀ {k : Nat}, (∀ i, i < k → f i = g i) → loN f k = loN g k
  | 0, _ => rfl
  | k + 1, h => by rw [loN, loN, loN_congr fun i hi => h i (by omega), h k (by omega)]
theorem hiN_congr {f g : Nat → Int} : ∀ {k : Nat}, (∀ i, i < k → f i = g i) → hiN f k = hiN g k
  | 0, _ => rfl
  | k + 1, h => by rw [hiN, hiN, hiN_congr fun i hi => h i (by omega), h k (by omega)]

set_option maxRecDepth 100000 in
set_option maxHeartbeats 4000000 in
theorem pathBox_any (A : Option Addr) (n c : Nat) (L : List (List Int)) (w : World) (h : RdM w A n L) (hs : SmallM L) :
    Calls Try.prog 43 #[.slice A n c] w fun e w' => e = .returned (.tuple #[.int .i64 (ifP L boxW), .int .i64 (ifP L boxH), .bool (pathB L)]) ∧ Below w.heap.size w w' := by
  have hI := pathOf_any A n c L w h hs
  cases hp : pathB L with
  | true =>
    rw [ifP_yes _ hp, ifP_yes _ hp]
    obtain ⟨hP, _⟩ := pathB_true hp
    have hA := fun W gs (hR : Ring W gs (corL (ptsL L))) => box_any gs (corL (ptsL L)) W hR (by rw [corL_len]; have := hP.hi; omega) (by rw [corL_at (by have := hP.lo; omega), cor_zero])
    have e1 : loN (fun i => (atP (corL (ptsL L)) i).1) (corL (ptsL L)).length = loN (cxN (ptsL L)) (ptsL L).length := by
      rw [corL_len]; exact loN_congr fun i hi => by rw [corL_at hi]
    have e2 : loN (fun i => (atP (corL (ptsL L)) i).2) (corL (ptsL L)).length = loN (cyN (ptsL L)) (ptsL L).length := by
      rw [corL_len]; exact loN_congr fun i hi => by rw [corL_at hi]
    have e3 : hiN (fun i => (atP (corL (ptsL L)) i).1) (corL (ptsL L)).length = hiN (cxN (ptsL L)) (ptsL L).length := by
      rw [corL_len]; exact hiN_congr fun i hi => by rw [corL_at hi]
    have e4 : hiN (fun i => (atP (corL (ptsL L)) i).2) (corL (ptsL L)).length = hiN (cyN (ptsL L)) (ptsL L).length := by
      rw [corL_len]; exact hiN_congr fun i hi => by rw [corL_at hi]
    rw [e1, e2, e3, e4] at hA
    have hbx := hP.box_bd (Nat.le_refl _)
    have HA := Lib.hid hA
    rw [hp] at hI
    unfold boxW boxH
    generalize loN (cxN (ptsL L)) (ptsL L).length = lx at *
    generalize loN (cyN (ptsL L)) (ptsL L).length = ly at *
    generalize hiN (cxN (ptsL L)) (ptsL L).length = hx at *
    generalize hiN (cyN (ptsL L)) (ptsL L).length = hy at *
    have v1 : IntKind.i64.wrap (hx - lx) = hx - lx := wrap_is rfl (by omega) (by omega)
    have v2 : IntKind.i64.wrap (hy - ly) = hy - ly := wrap_is rfl (by omega) (by omega)
    clear h hs hp hP hA e1 e2 e3 e4 hbx
    go_enter Try.func43, Try.ntmps43
    go_wp2_with fail
    refine hI.mono ?_
    rintro e w1 ⟨⟨v, rfl, hv⟩, b1⟩
    obtain ⟨gs, rfl, hR, _⟩ := hv (by first | rfl | trivial)
    have HR := Lib.hid hR
    clear hv hR
    go_wp2_with fail
    refine (HA.out _ gs HR.out).mono ?_
    rintro e w2 ⟨rfl, b2⟩
    have BE := Lib.hid (below_alloc (below_alloc (below_then b1 b2) (vecO lx ly)) (vecO hx hy))
    obtain ⟨k0, k1, _, _⟩ := pr_cells (al_old (o' := vecO hx hy) (World.alloc_heap_new w2 (vecO lx ly)))
    obtain ⟨k2, k3, _, _⟩ := pr_cells (al_new2 w2 (vecO lx ly) (vecO hx hy))
    clear b1 b2 hI
    go_wp2_with fail
    go_quiet (fail)
    go_wp2_with fail
    go_ret3
    exact ⟨rfl, below_drewN BE.out _⟩
  | false =>
    rw [ifP_no _ hp, ifP_no _ hp]
    rw [hp] at hI
    clear h hs hp
    go_enter Try.func43, Try.ntmps43
    go_wp2_with fail
    refine hI.mono ?_
    rintro e w1 ⟨⟨v, rfl, _⟩, b1⟩
    go_wp2_with fail
    go_ret3
    exact ⟨rfl, b1⟩
end Go.Proofs.Ythpgenkdiokpeaa
