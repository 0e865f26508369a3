/- The walk of the exact law TriWhole. -/
import Derived.Test.YtcfmnjkgebopcaaWholeS
import Derived.Test.YtcfmnjkgebopcaaE2c
namespace Go.Proofs.Ytcfmnjkgebopcaa
open Go.RowKit

theorem len_triWholeM (p : Int) : (triWholeM p).length ≤ 100 := Nat.le_trans (List.length_filter_le _ _) (len_triAllM p)

set_option maxRecDepth 100000 in
set_option maxHeartbeats 2000000 in
theorem fnExactTriWhole_walk (a0 : Int) (w : World) (_ : (Lit.int .i64 a0).wf = true) :
    Calls Try.prog 31 #[.int .i64 a0] w fun e w' => e = .returned (.bool true) ∧ Below w.heap.size w w' := by
  have hlen := len_triWholeM a0
  obtain ⟨q, hq⟩ : ∃ q, q = inB a0 1 60 := ⟨_, rfl⟩
  have hS := specTriWhole_any a0 w
  have hI := fun W => implTriWhole_any a0 W
  rw [← hq] at hS hI
  generalize triWholeM a0 = L at *
  obtain ⟨n, hn⟩ : ∃ n, n = L.length := ⟨_, rfl⟩
  rw [← hn] at hlen hS hI
  have HN := Lib.hid hn
  clear hq hn
  have d1 : decide ((1 : Int) + 3 * (n : Int) < 0) = false := by simp; omega
  have d2 : ((1 : Int) + 3 * (n : Int) != 1 + 3 * (n : Int)) = false := by simp
  go_enter Try.func31, Try.ntmps31
  go_wp2_with fail
  refine hS.mono ?_
  rintro e w1 ⟨A1, c1, rfl, ⟨gs1, o1⟩, b1⟩
  go_wp2_with fail
  refine (hI _).mono ?_
  rintro e w2 ⟨A2, c2, rfl, ⟨gs2, o2⟩, b2⟩
  have r1 := Lib.hid o1.rd
  clear o1 hS
  go_wp2_with fail
  refine (eqIntSS_same A2 A1 n c2 c1 L _ o2.rd (r1.out.same b2) (by omega)).mono ?_
  rintro e w3 ⟨rfl, b3⟩
  have o3 := o2.same b3
  have C3 : Below w1.heap.size w1 w3 := below_then b2 b3
  clear o2
  go_wp2_with fail
  refine (markIntSS_any A2 n c2 w1.heap.size gs2 L 1 _ o3 (by omega) (by omega) (by omega)).mono ?_
  rintro e w4 ⟨rfl, o4, b4⟩
  have C4 : Below w1.heap.size w1 w4 := C3.trans (b4 C3.size)
  clear o3 b4
  go_wp2_with fail
  refine (heldIntSS_any A2 n c2 L 1 _ o4.rd HN.out.symm (by omega) (by omega) (by omega)).mono ?_
  rintro e w5 ⟨rfl, b5⟩
  have o5 := o4.same b5
  have C5 : Below w1.heap.size w1 w5 := below_then C4 b5
  clear o4
  go_wp2_with fail
  refine (hI _).mono ?_
  rintro e w6 ⟨A6, c6, rfl, ⟨gs6, o6⟩, b6⟩
  have o56 := o5.same b6
  have C6 : Below w1.heap.size w1 w6 := below_then C5 b6
  clear o5 hI
  go_wp2_with fail
  refine (eqIntSS_same A6 A1 n c6 c1 L _ o6.rd (r1.out.same C6) (by omega)).mono ?_
  rintro e w7 ⟨rfl, b7⟩
  have o7 := o56.same b7
  have C7 : Below w1.heap.size w1 w7 := below_then C6 b7
  clear o56 o6
  go_wp2_with fail
  refine (heldIntSS_any A2 n c2 L 1 _ o7.rd HN.out.symm (by omega) (by omega) (by omega)).mono ?_
  rintro e w8 ⟨rfl, b8⟩
  have C8 : Below w1.heap.size w1 w8 := below_then C7 b8
  clear o7
  go_wp2_with fail
  go_ret
  exact ⟨rfl, below_then b1 C8⟩
end Go.Proofs.Ytcfmnjkgebopcaa
