/- The walk of the exact law of TermLength. -/
import Derived.Test.YtegpidlhhneilaaDoorTrmV
import Derived.LaidLaws
namespace Go.Proofs.YtegpidlhhneilaaDoor
open Go.RowKit Go.Sort Go.Lib
set_option maxHeartbeats 1000000 in
theorem fnExactTermLength_walk (l : List UInt8) (T : TypeId) (p : Value) (w : World) (hs : l.length ≤ maxLen) (hg : w.cell? ⟨0, 0, none⟩ = some (.iface T p)) : Calls Tryd.prog 3 #[.string (bsB l)] w fun e w' => e = .returned (.bool true) ∧ Below w.heap.size w w' := by
  have hsz := bsB_size l
  unfold maxLen at hs
  by_cases big : 1048576 < l.length
  · have d1 : decide ((1048576 : Int) < (l.length : Int)) = true := decide_eq_true (by omega)
    clear hg
    go_enter Tryd.func3, Tryd.ntmps3
    go_wp2_with fail
    go_ret
    exact ⟨rfl, Below.refl _ _⟩
  · have d1 : decide ((1048576 : Int) < (l.length : Int)) = false := decide_eq_false (by omega)
    have HS := Lib.hid (fun W => specTermLength_any l (by omega) W)
    have HI := Lib.hid (fun W (b : Below w.heap.size w W) => implTermLength_any l (by omega) T p W (glob_below hg b))
    obtain ⟨k, o, ek⟩ : ∃ k o, lnV l = .tuple #[.int .i64 k, .bool o] := by
      unfold lnV
      cases shT l with
      | none => exact ⟨_, _, rfl⟩
      | some t => exact ⟨_, _, rfl⟩
    rw [ek] at HS HI
    clear hg ek big
    go_enter Tryd.func3, Tryd.ntmps3
    go_wp2_with fail
    refine (HS.out _).mono ?_
    rintro e w2 ⟨rfl, b2⟩
    go_wp2_with fail
    refine (HI.out _ b2).mono ?_
    rintro e w3 ⟨rfl, b3⟩
    go_wp2_with fail
    go_ret
    exact ⟨rfl, b2.trans (b3.mono b2.size)⟩
/-- What the condition gives: errLong's cell. -/
theorem errLong_name : Tryd.prog.globalNamed "loop.example/closingsticks/impl.errLong" = some 0 := by kernel_rfl
theorem errLong_type : (Tryd.prog.globals[0]?).map (·.type) = some 36 := by kernel_rfl
theorem errLong_star : "*" ++ "errors.errorString" = "*errors.errorString" := by decide
theorem errLong_row (u : TypeId) (h : Tryd.prog.typeName? 3 u = some "*errors.errorString") : u = 63 :=
  typeName_ptr_named (nm := "errors.errorString") (by rw [errLong_star]; kernel_rfl) (by kernel_rfl) (by decide) u (by rw [errLong_star]; exact h)
theorem errLong_cells : Tryd.prog.cellsOf 86 = 1 := by kernel_rfl
theorem errLong_cells9 : Tryd.prog.cellsOf 9 = 1 := by kernel_rfl
end Go.Proofs.YtegpidlhhneilaaDoor
