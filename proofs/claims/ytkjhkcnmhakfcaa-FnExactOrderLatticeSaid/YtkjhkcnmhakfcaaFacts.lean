/- Closed facts on this translation that every statement of the seat asks: its head's words are read once, so that the kernel need not run over the head for each statement. -/
import Derived.Test.YtkjhkcnmhakfcaaRows
import Derived.JoinedOf
import Derived.KernelRfl
namespace Go.Proofs.Ytkjhkcnmhakfcaa
open Go
theorem chars_of {s : String} {l : List Char} (h : s = String.ofList l) : s.toList = l := by subst h; exact String.toList_ofList
theorem strip_cut (r : List (List Char)) : stripLifts liftWords ("cut".toList :: r) = ([], "cut".toList :: r) := by
  simp [stripLifts, liftWords]
theorem mayEnter_of (P : Program) (r : List (List Char)) (h : behindMainWord (wordsSigns P.initOrder.toList) = "cut".toList :: r) (h1 : P.laysLater = false) (h2 : P.bearsReflect = false) (h3 : P.doorFits [] = true) : P.mayEnter = true := by
  unfold Program.mayEnter
  rw [h]
  simp only [strip_cut, h1, h2, h3]
  simp
theorem headLifts_of (P : Program) (r : List (List Char)) (h : behindMainWord (wordsSigns P.initOrder.toList) = "cut".toList :: r) : P.headLifts = [] := by
  unfold Program.headLifts
  rw [h]
  simp only [strip_cut]
  simp
theorem liftsFinal_of (P : Program) (r : List (List Char)) (h : behindMainWord (wordsSigns P.initOrder.toList) = "cut".toList :: r) : P.liftsFinal = false := by
  unfold Program.liftsFinal
  rw [headLifts_of P r h, h]
  simp
theorem make_of (P : Program) (r : List (List Char)) (h : behindMainWord (wordsSigns P.initOrder.toList) = "cut".toList :: r) : P.make = some .cut := by
  unfold Program.make
  rw [h]
  simp
theorem cut_of {l : List (List Char)} (h : l.head? = some "cut".toList) : ∃ r, l = "cut".toList :: r := by
  cases l with
  | nil => cases h
  | cons a r => exact ⟨r, by simp at h; rw [h]; simp⟩
set_option maxRecDepth 100000 in
theorem headIsCut : (behindMainWord (wordsSigns Try.prog.initOrder.toList)).head? = some "cut".toList := by
  rw [chars_of (s := Try.prog.initOrder) rfl]
  kernel_rfl
theorem mayF : Try.prog.mayEnter = true := by
  obtain ⟨r, hr⟩ := cut_of headIsCut
  exact mayEnter_of _ r hr (by kernel_rfl) (by kernel_rfl) (by kernel_rfl)
theorem liftF (c : OpenClaim) (h : c.lifted = false) : (c.lifted == Try.prog.liftsFinal) = true := by
  obtain ⟨r, hr⟩ := cut_of headIsCut
  rw [liftsFinal_of _ r hr, h]
  rfl
theorem makeF (c : OpenClaim) (h : c.make = .cut) : (Try.prog.make == some c.make) = true := by
  obtain ⟨r, hr⟩ := cut_of headIsCut
  rw [make_of _ r hr, h]
  rfl
theorem ownF : ownKnob Try.prog.godebug = none := by kernel_rfl
theorem laidF : laidOutB Try.prog = true := by kernel_rfl
theorem rowedF : mapsRowed Try.prog = true := by kernel_rfl
theorem heardF : Try.prog.stopsHeard = true := by kernel_rfl
theorem bandF {a b : Bool} (h1 : a = true) (h2 : b = true) : (a && b) = true := by rw [h1, h2]; rfl
end Go.Proofs.Ytkjhkcnmhakfcaa
