/- The model's convex paths. -/
import Derived.Test.YtdnegamminhbfaaPathS
namespace Go.Proofs.Ytdnegamminhbfaa
open Go.RowKit Go.Sort Go.Lib

theorem ptn {l : List Pt} (h : IsPath l) {i : Nat} (hi : i < l.length) : atP l i ≠ (0, 0) := h.nz _ (by rw [atP_lt hi]; exact List.getElem_mem hi)
/-- The half of a direction. -/
def halfN (a : Pt) : Int := if upB a then 0 else 1
theorem half_yes {a : Pt} (h : upB a = true) : halfN a = 0 := by unfold halfN; rw [h]; rfl
theorem half_no {a : Pt} (h : upB a = false) : halfN a = 1 := by unfold halfN; rw [h]; rfl

set_option maxRecDepth 100000 in
set_option maxHeartbeats 2000000 in
theorem l6sHalf_any (A : Option Addr) (c : Nat) (r : List Int) (w : World) (h : Rd w A 2 r) :
    Calls Try.prog 153 #[.slice A 2 c] w fun e w' => e = .returned (.int .i64 (halfN (rowPt r))) ∧ Below w.heap.size w w' := by
  obtain ⟨b, off, rfl, hbl, hc⟩ := h.2 (by omega)
  have c0 := hc 0 (by omega)
  have c1 := hc 1 (by omega)
  rw [Nat.add_zero] at c0
  have he : rowPt r = (r.getD 0 0, r.getD 1 0) := rfl
  rw [he]
  generalize r.getD 0 0 = x at *
  generalize r.getD 1 0 = y at *
  clear hc h he
  by_cases hy : 0 < y
  · rw [half_yes (a := (x, y)) (by simp [upB, hy])]
    have d1 : decide (y > 0) = true := by simpa using hy
    clear hy
    go_enter Try.func153, Try.ntmps153
    go_wp2_with fail
    go_ret
    exact ⟨rfl, Below.refl _ _⟩
  · have d1 : decide (y > 0) = false := by simpa using hy
    by_cases hy0 : y = 0
    · subst hy0
      by_cases hx : 0 < x
      · rw [half_yes (a := (x, 0)) (by simp [upB, hx])]
        have d2 : decide (x > 0) = true := by simpa using hx
        clear hx hy d1
        go_enter Try.func153, Try.ntmps153
        go_wp2_with fail
        go_ret
        exact ⟨rfl, Below.refl _ _⟩
      · rw [half_no (a := (x, 0)) (by simpa [upB] using hx)]
        have d2 : decide (x > 0) = false := by simpa using hx
        clear hx hy d1
        go_enter Try.func153, Try.ntmps153
        go_wp2_with fail
        go_ret
        exact ⟨rfl, Below.refl _ _⟩
    · rw [half_no (a := (x, y)) (by simp [upB, hy0]; omega)]
      have d2 : (y == 0) = false := by simpa using hy0
      clear hy hy0
      go_enter Try.func153, Try.ntmps153
      go_wp2_with fail
      go_ret
      exact ⟨rfl, Below.refl _ _⟩

set_option maxRecDepth 100000 in
set_option maxHeartbeats 2000000 in
theorem l6sBefore_of (v v' : Value) (p q z : Int) (w : World) (hp : ∀ W, Below w.heap.size w W → Calls Try.prog 153 #[v] W fun e w' => e = .returned (.int .i64 p) ∧ Below W.heap.size W w')
    (hq : ∀ W, Below w.heap.size w W → Calls Try.prog 153 #[v'] W fun e w' => e = .returned (.int .i64 q) ∧ Below W.heap.size W w')
    (hz : ∀ W, Below w.heap.size w W → Calls Try.prog 147 #[v, v'] W fun e w' => e = .returned (.int .i64 z) ∧ Below W.heap.size W w') (h0 : z ≤ 0) :
    Calls Try.prog 142 #[v, v'] w fun e w' => e = .returned (.bool (decide (p < q))) ∧ Below w.heap.size w w' := by
  have HP := Lib.hid hp
  have HQ := Lib.hid hq
  have HZ := Lib.hid hz
  clear hp hq hz
  by_cases hpq : p = q
  · subst hpq
    have d1 : decide (z > 0) = false := by simpa using h0
    have HE := Lib.hid (show decide (p < p) = false by simp)
    rw [HE.out]
    clear h0
    go_enter Try.func142, Try.ntmps142
    go_wp2_with fail
    with_reducible refine (HP.out _ (Below.refl _ _)).mono ?_
    rintro e w1 ⟨rfl, b1⟩
    go_wp2_with fail
    with_reducible refine (HQ.out _ b1).mono ?_
    rintro e w2 ⟨rfl, b2⟩
    replace b1 := below_then b1 b2
    clear b2
    go_wp2_with fail
    with_reducible refine (HZ.out _ b1).mono ?_
    rintro e w3 ⟨rfl, b2⟩
    replace b1 := below_then b1 b2
    clear b2
    go_wp2_with fail
    go_ret
    exact ⟨rfl, b1⟩
  · have d1 : (p != q) = true := by simpa using hpq
    clear hpq h0
    go_enter Try.func142, Try.ntmps142
    go_wp2_with fail
    with_reducible refine (HP.out _ (Below.refl _ _)).mono ?_
    rintro e w1 ⟨rfl, b1⟩
    go_wp2_with fail
    with_reducible refine (HQ.out _ b1).mono ?_
    rintro e w2 ⟨rfl, b2⟩
    replace b1 := below_then b1 b2
    clear b2
    go_wp2_with fail
    with_reducible refine (HP.out _ b1).mono ?_
    rintro e w3 ⟨rfl, b2⟩
    replace b1 := below_then b1 b2
    clear b2
    go_wp2_with fail
    with_reducible refine (HQ.out _ b1).mono ?_
    rintro e w4 ⟨rfl, b2⟩
    replace b1 := below_then b1 b2
    clear b2
    go_wp2_with fail
    go_ret
    exact ⟨rfl, b1⟩

theorem wrap_half (a b : Pt) : decide (halfN b < halfN a) = wrapB a b := by
  cases ha : upB a <;> cases hb : upB b <;> simp [halfN, wrapB, ha, hb]
theorem l6sBefore_any (A A' : Option Addr) (c c' : Nat) (r r' : List Int) (w : World) (h : Rd w A 2 r) (h' : Rd w A' 2 r') (hb : ∀ a b : Int, (a = r.getD 0 0 ∨ a = r.getD 1 0) → (b = r'.getD 0 0 ∨ b = r'.getD 1 0) → -1000000 ≤ a * b ∧ a * b ≤ 1000000) (hc : 0 ≤ crs (rowPt r') (rowPt r)) :
    Calls Try.prog 142 #[.slice A 2 c, .slice A' 2 c'] w fun e w' => e = .returned (.bool (wrapB (rowPt r') (rowPt r))) ∧ Below w.heap.size w w' := by
  rw [← wrap_half]
  refine l6sBefore_of _ _ _ _ (crs (rowPt r) (rowPt r')) w (fun W hW => l6sHalf_any A c r W (h.same hW)) (fun W hW => l6sHalf_any A' c' r' W (h'.same hW)) (fun W hW => l6sCross_any A A' c c' r r' W (h.same hW) (h'.same hW) hb) ?_
  have : crs (rowPt r') (rowPt r) = -crs (rowPt r) (rowPt r') := by simp only [crs]; grind
  omega
end Go.Proofs.Ytdnegamminhbfaa
