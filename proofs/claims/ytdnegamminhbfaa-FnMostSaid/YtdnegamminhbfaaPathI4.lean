/- The program's paths that begin elsewhere. -/
import Derived.Test.YtdnegamminhbfaaPathI2
namespace Go.Proofs.Ytdnegamminhbfaa
open Go.RowKit Go.Sort Go.Lib

def rotN (gs : List Nat) (k : Nat) : List Nat := gs.drop k ++ gs.take k
theorem rotN_at {gs : List Nat} {k i : Nat} (hk : k ≤ gs.length) (hi : i < gs.length) : (rotN gs k).getD i 0 = gs.getD ((k + i) % gs.length) 0 := by
  unfold rotN
  simp only [List.getD_eq_getElem?_getD]
  by_cases h : i < gs.length - k
  · rw [List.getElem?_append_left (by simpa using h), List.getElem?_drop, Nat.mod_eq_of_lt (by omega)]
  · rw [List.getElem?_append_right (by simp; omega), List.length_drop, List.getElem?_take, if_pos (by omega)]
    rw [show (k + i) % gs.length = i - (gs.length - k) by rw [Nat.mod_eq_sub_mod (by omega), Nat.mod_eq_of_lt (by omega)]; omega]
theorem Ring.rot {w : World} {gs : List Nat} {ps : List Pt} (h : Ring w gs ps) {k : Nat} (hk : k < ps.length) : Ring w (rotN gs k) (rotL ps k) := by
  have hl := h.len
  refine ⟨by rw [rot_len, ← hl]; simp [rotN]; omega, by rw [rot_len]; exact h.pos, ?_, fun i hi => ?_⟩
  · unfold rotN
    have h1 := h.nodup
    rw [← List.take_append_drop k gs] at h1
    exact (List.perm_append_comm.nodup_iff).1 h1
  · rw [rot_len] at hi ⊢
    have hm : (i + 1) % ps.length < ps.length := Nat.mod_lt _ (by omega)
    rw [rot_at (by omega) hi, rotN_at (by omega) (by omega), rotN_at (by omega) (by omega), hl]
    have hc := h.cells ((k + i) % ps.length) (Nat.mod_lt _ (by omega))
    rw [show (k + (i + 1) % ps.length) % ps.length = ((k + i) % ps.length + 1) % ps.length by rw [Nat.add_mod_mod, Nat.mod_add_mod, Nat.add_assoc]]
    exact hc
/-- Whether there is a path, and a place in it. -/
def begB (L : List (List Int)) (a : Int) : Bool := pathB L && (decide (0 ≤ a) && decide (a < (L.length : Int)))
noncomputable def begR (L : List (List Int)) (a : Int) : List (List Int) := if begB L a then rowsOf (rotL (ptsL L) a.toNat) else []
theorem begR_yes {L : List (List Int)} {a : Int} (h : begB L a = true) : begR L a = rowsOf (rotL (ptsL L) a.toNat) := by unfold begR; rw [if_pos h]
theorem begR_no {L : List (List Int)} {a : Int} (h : begB L a = false) : begR L a = [] := by unfold begR; rw [h]; rfl

theorem tellStep_any (gs : List Nat) (ps : List Pt) (i : Nat) (w : World) (hi : i < ps.length) (hps : 0 < ps.length) (hb : ∀ i, i < ps.length → (-1000 ≤ (atP ps i).1 ∧ (atP ps i).1 ≤ 1000) ∧ (-1000 ≤ (atP ps i).2 ∧ (atP ps i).2 ≤ 1000)) (hR : Ring w gs ps) :
    Calls Try.prog 89 #[ptrV (gs.getD i 0)] w fun e w'' => e = .returned (vecX (subP (atP ps ((i + 1) % ps.length)) (atP ps i)).1 (subP (atP ps ((i + 1) % ps.length)) (atP ps i)).2) ∧ Below w.heap.size w w'' := by
  have h1 := hb i hi
  have h2 := hb _ (Nat.mod_lt (i + 1) hps)
  exact step_any _ _ _ _ _ _ _ _ (hR.cells i hi) (hR.cells _ (Nat.mod_lt (i + 1) hps)) (by omega) (by omega)

end Go.Proofs.Ytdnegamminhbfaa
