/- The model's sorted paths. -/
import Derived.Test.YthpgenkdiokpeaaOrdS3
import Derived.Test.YthpgenkdiokpeaaOrdI6
namespace Go.Proofs.Ythpgenkdiokpeaa
open Go.RowKit Go.Sort Go.Lib

set_option maxRecDepth 100000 in
set_option maxHeartbeats 2000000 in
theorem specOrderSorted_any (A : Option Addr) (n c : Nat) (L : List (List Int)) (w : World) (h : RdM w A n L) (hs : SmallM L) :
    Calls Try.prog 64 #[.slice A n c] w fun e w' => (∃ (A' : Option Addr) (n' c' : Nat), e = .returned (.tuple #[.slice A' n' c', .bool (pathB L)]) ∧ RdM w' A' n' (ifR L fun l => rowsOf (srt l))) ∧ Below w.heap.size w w' := by
  have hI := specPathIn_any A n c L w h hs
  have HL := Lib.hid h.1
  cases hp : pathB L with
  | false =>
    rw [ifR_no _ hp]
    rw [hp] at hI
    clear h hs hp
    go_enter Try.func64, Try.ntmps64
    go_wp2_with fail
    refine hI.mono ?_
    rintro e w1 ⟨rfl, b1⟩
    go_wp2_with fail
    refine bodyPost_ret (results_tmp2 rfl _ _ _) rfl ?_
    exact ⟨⟨_, 0, 0, rfl, RdM.nil_ _ _⟩, below_alloc b1 _⟩
  | true =>
    rw [ifR_yes _ hp]
    rw [hp] at hI
    have HS := Lib.hid (fun W (hW : Below w.heap.size w W) => l7Sorted_any A n c L W (h.same hW) (by have := (pathB_len hp).2; rw [HL.out] at this; omega) (pathB_stepsB hp))
    clear h hs hp
    go_enter Try.func64, Try.ntmps64
    go_wp2_with fail
    refine hI.mono ?_
    rintro e w1 ⟨rfl, b1⟩
    go_wp2_with fail
    refine (HS.out _ b1).mono ?_
    rintro e w2 ⟨A2, c2, gs, rfl, o2, b2⟩
    have HO := Lib.hid o2.rd
    clear o2
    go_wp2_with fail
    refine bodyPost_ret (results_tmp2 rfl _ _ _) rfl ?_
    exact ⟨⟨_, _, _, rfl, HO.out⟩, below_then b1 b2⟩
end Go.Proofs.Ythpgenkdiokpeaa
