/- The program's test whether a ring of corners is convex. -/
import Derived.Test.YtdnegamminhbfaaArea
import Derived.Test.YtdnegamminhbfaaQuiAlloc
namespace Go.Proofs.Ytdnegamminhbfaa
open Go.RowKit Go.Sort Go.Lib Go.Shelf
attribute [local go_sem] Oper.semAt_some bAtU

theorem mk_vec {o : Oper} (hg : o.guard = none) (h : o.op = .alloc 65) : Mk Try.prog o (vecO 0 0) :=
  ⟨hg, fun w a => by simp [Oper.about, h], fun w a => by unfold execOp; rw [h]; go_simp⟩

def cntP {n : Nat} (f : Nat → Bool) (pre : List (Fin n)) : Nat := pre.countP (fun i => f i.1)
theorem cntP_yes {n : Nat} {f : Nat → Bool} (pre : List (Fin n)) {x : Fin n} (h : f x.1 = true) : cntP f (pre ++ [x]) = cntP f pre + 1 := by simp [cntP, List.countP_append, h]
theorem cntP_no {n : Nat} {f : Nat → Bool} (pre : List (Fin n)) {x : Fin n} (h : f x.1 = false) : cntP f (pre ++ [x]) = cntP f pre := by simp [cntP, List.countP_append, h]
theorem cntP_le {n : Nat} (f : Nat → Bool) (pre : List (Fin n)) : cntP f pre ≤ pre.length := List.countP_le_length
theorem cntP_firsts {n : Nat} (f : Nat → Bool) (h : 0 < n) : ∀ k, k ≤ n → cntP f (firsts h k) = numN f k
  | 0, _ => by simp [cntP, firsts, numN]
  | k + 1, hk => by
    rw [firsts_succ, numN]
    have e := fz_val h (i := k) (by omega)
    cases hf : f k with
    | true => rw [cntP_yes _ (by rw [e]; exact hf), cntP_firsts f h k (by omega)]; rfl
    | false => rw [cntP_no _ (by rw [e]; exact hf), cntP_firsts f h k (by omega)]; rfl
theorem firsts_all {n : Nat} (h : 0 < n) (x : Fin n) : x ∈ firsts h n := List.mem_map.2 ⟨x.1, List.mem_range.2 x.2, Fin.ext (fz_val h x.2)⟩

/-- The step at a corner of a ring. -/
abbrev stp (ps : List Pt) (i : Nat) : Pt := subP (atP ps ((i + 1) % ps.length)) (atP ps i)
def fullB (a b : Pt) : Bool := decide (a.2 < 0) && decide (0 ≤ b.2)
abbrev okAt (ps : List Pt) (i : Nat) : Bool := okB (stp ps i) (stp ps ((i + 1) % ps.length))
abbrev fullAt (ps : List Pt) (i : Nat) : Bool := fullB (stp ps i) (stp ps ((i + 1) % ps.length))
def convI (ps : List Pt) : Bool := (List.range ps.length).all (okAt ps) && decide (numN (fullAt ps) ps.length = 1)

end Go.Proofs.Ytdnegamminhbfaa
