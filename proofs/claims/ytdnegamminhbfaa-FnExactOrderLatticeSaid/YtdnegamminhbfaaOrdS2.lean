/- The model's stars, pairs of steps. -/
import Derived.Test.YtdnegamminhbfaaStepsOf
import Derived.Test.YtdnegamminhbfaaOrdP
import Derived.Test.YtdnegamminhbfaaPathS
namespace Go.Proofs.Ytdnegamminhbfaa
open Go.RowKit Go.Sort Go.Lib

/-- A star. -/
def starB (L : List (List Int)) : Bool := stepsB L && (decide (2 ≤ L.length) && decide (L.length ≤ 4))
theorem starB_true {L : List (List Int)} (h : starB L = true) : stepsB L = true ∧ 2 ≤ L.length ∧ L.length ≤ 4 ∧ ∀ s ∈ ptsL L, stepP s := by
  simp only [starB, Bool.and_eq_true, decide_eq_true_eq] at h
  exact ⟨h.1, h.2.1, h.2.2, fun s hs => by
    obtain ⟨r, hr, rfl⟩ := List.mem_map.1 hs
    exact (stepRow_pt (List.all_eq_true.1 h.1 r hr)).1⟩

/-- Two rows of steps, crosswise. -/
theorem crossRow {A : Option Addr} {n i k : Nat} {L : List (List Int)} {w : World} (h : RdM w A n L) (hs : stepsB L = true) (hi : i < n) (hk : k < n) :
    ∃ b off A1 c1 A2 c2, A = some ⟨b, off, none⟩ ∧ w.cell? ⟨b, off + i, none⟩ = some (.slice A1 2 c1) ∧ w.cell? ⟨b, off + k, none⟩ = some (.slice A2 2 c2) ∧
      ∀ W, Below w.heap.size w W → Calls Try.prog 147 #[.slice A1 2 c1, .slice A2 2 c2] W fun e w' => e = .returned (.int .i64 (crs (atP (ptsL L) i) (atP (ptsL L) k))) ∧ Below W.heap.size W w' := by
  obtain ⟨b, off, rfl, hbl, hc⟩ := h.2 (by omega)
  obtain ⟨A1, c1, x1, r1⟩ := hc i hi
  obtain ⟨A2, c2, x2, r2⟩ := hc k hk
  have q1 := stepRow_pt (stepsB_at hs (j := i) (by rw [h.1]; exact hi))
  have q2 := stepRow_pt (stepsB_at hs (j := k) (by rw [h.1]; exact hk))
  rw [q1.2] at x1 r1
  rw [q2.2] at x2 r2
  refine ⟨b, off, A1, c1, A2, c2, rfl, x1, x2, fun W hW => ?_⟩
  have e1 : atP (ptsL L) i = rowPt (rowL L i) := ptsL_at (by rw [h.1]; exact hi)
  have e2 : atP (ptsL L) k = rowPt (rowL L k) := ptsL_at (by rw [h.1]; exact hk)
  rw [e1, e2]
  refine l6sCross_any A1 A2 c1 c2 (rowL L i) (rowL L k) W (r1.same hW) (r2.same hW) fun a b ha hb => ?_
  have u1 := q1.1
  have u2 := q2.1
  unfold stepP at u1 u2
  simp only [rowPt] at u1 u2
  have := mul_sq (a := a) (b := b) (A := 9) (B := 9) (by rcases ha with rfl | rfl <;> omega) (by rcases ha with rfl | rfl <;> omega) (by rcases hb with rfl | rfl <;> omega) (by rcases hb with rfl | rfl <;> omega)
  omega

theorem prS_succ (f : Pt → Pt → Int) (l : List Pt) (i : Nat) : prS f l (i + 1) = prS f l i + sumF (fun k => f (atP l i) (atP l k)) i := rfl
theorem prS_bd {f : Pt → Pt → Int} {l : List Pt} {b : Int} (hb : 0 ≤ b) (h4 : l.length ≤ 4) (hf : ∀ i k, i < l.length → k < l.length → -b ≤ f (atP l i) (atP l k) ∧ f (atP l i) (atP l k) ≤ b) {i k : Nat} (hi : i ≤ l.length) (hk : k ≤ i) (hi2 : i < l.length ∨ k = 0) :
    -(32 * b) ≤ prS f l i + sumF (fun k => f (atP l i) (atP l k)) k ∧ prS f l i + sumF (fun k => f (atP l i) (atP l k)) k ≤ 32 * b := by
  have key : ∀ j m, j < l.length → m ≤ j → -(4 * b) ≤ sumF (fun k => f (atP l j) (atP l k)) m ∧ sumF (fun k => f (atP l j) (atP l k)) m ≤ 4 * b := fun j m hj hm => by
    have h1 := sumF_bd (f := fun k => f (atP l j) (atP l k)) (b := b) (n := m) (fun k hk => hf j k hj (by omega))
    have h2 : b * (m : Int) ≤ b * 4 := Int.mul_le_mul_of_nonneg_left (by omega) hb
    omega
  have h3 := sumF_bd (f := fun j => sumF (fun k => f (atP l j) (atP l k)) j) (b := 4 * b) (n := i) (fun j hj => key j j (by omega) (Nat.le_refl _))
  have h4' : 4 * b * (i : Int) ≤ 4 * b * 4 := Int.mul_le_mul_of_nonneg_left (by omega) (by omega)
  unfold prS
  rcases hi2 with h | h
  · have := key i k h hk
    omega
  · subst h
    simp only [sumF]
    omega
theorem abC_bd {a b : Pt} (ha : stepP a) (hb : stepP b) : (-162 ≤ crs a b ∧ crs a b ≤ 162) ∧ 0 ≤ abC a b ∧ abC a b ≤ 162 := by
  unfold stepP at ha hb
  have := crs_bd (a := a) (b := b) (A := 9) (B := 9) ha.1 ha.2.1 hb.1 hb.2.1
  refine ⟨by omega, ?_⟩
  unfold abC
  split <;> omega
def ifS (L : List (List Int)) (f : List Pt → Int) : Int := if starB L then f (ptsL L) else 0
theorem ifS_yes {L : List (List Int)} (f : List Pt → Int) (h : starB L = true) : ifS L f = f (ptsL L) := by unfold ifS; rw [if_pos h]
theorem ifS_no {L : List (List Int)} (f : List Pt → Int) (h : starB L = false) : ifS L f = 0 := by unfold ifS; rw [h]; rfl
/-- The model's area of a star, and its pieces. -/
def zarP (l : List Pt) : Int := prS (fun a b => 2 * abC a b) l l.length
def zpcP (l : List Pt) : Int := prS neC l l.length

end Go.Proofs.Ytdnegamminhbfaa
