/- The box of a ring of corners. -/
import Derived.Test.YthpgenkdiokpeaaArea
namespace Go.Proofs.Ythpgenkdiokpeaa
open Go.RowKit Go.Sort Go.Lib Go.Shelf
attribute [local go_sem] Oper.semAt_some

/-- The least and the greatest of what is told so far, from a on. -/
def loP {n : Nat} (a : Int) (f : Nat → Int) (pre : List (Fin n)) : Int := pre.foldl (fun m i => min m (f i.1)) a
def hiP {n : Nat} (a : Int) (f : Nat → Int) (pre : List (Fin n)) : Int := pre.foldl (fun m i => max m (f i.1)) a
theorem loP_snoc {n : Nat} (a : Int) (f : Nat → Int) (pre : List (Fin n)) (x : Fin n) : loP a f (pre ++ [x]) = min (loP a f pre) (f x.1) := by simp [loP]
theorem hiP_snoc {n : Nat} (a : Int) (f : Nat → Int) (pre : List (Fin n)) (x : Fin n) : hiP a f (pre ++ [x]) = max (hiP a f pre) (f x.1) := by simp [hiP]
theorem loP_firsts {n : Nat} (f : Nat → Int) (h : 0 < n) : ∀ k, k ≤ n → loP 0 f (firsts h k) = loN f k
  | 0, _ => rfl
  | k + 1, hk => by rw [firsts_succ, loP_snoc, loP_firsts f h k (by omega), fz_val h (by omega), loN]
theorem hiP_firsts {n : Nat} (f : Nat → Int) (h : 0 < n) : ∀ k, k ≤ n → hiP 0 f (firsts h k) = hiN f k
  | 0, _ => rfl
  | k + 1, hk => by rw [firsts_succ, hiP_snoc, hiP_firsts f h k (by omega), fz_val h (by omega), hiN]

/-- The call's blocks: two answers, the least, the greatest, the iterator's box. -/
structure BxB (w : World) (bl bm cb : Nat) (g0 : Nat) (lx ly hx hy : Int) (W : World) : Prop where
  r1 : W.heap[w.heap.size]? = some (vecO 0 0)
  r2 : W.heap[w.heap.size + 1]? = some (vecO 0 0)
  lo : W.heap[bl]? = some (vecO lx ly)
  hi : W.heap[bm]? = some (vecO hx hy)
  bx : W.heap[cb]? = some (.cells #[ptrV g0] 47 (0, 0))
  bel : Below w.heap.size w W
theorem BxB.grow {w W W' : World} {bl bm cb g0 : Nat} {lx ly hx hy : Int} {row : Option Nat} (h : BxB w bl bm cb g0 lx ly hx hy W) (hg : W.grownBy W' row) (hr : ∀ r, row = some r → ∃ o : Obj, W.heap[r]? = some o ∧ o.isCells = false) (hB : ∀ r, row = some r → w.heap.size ≤ r) : BxB w bl bm cb g0 lx ly hx hy W' := by
  have key : ∀ {k : Nat} {o : Obj}, W.heap[k]? = some o → o.isCells = true → W'.heap[k]? = some o := fun {k o} hk ho => (hg.block k (Array.getElem?_eq_some_iff.1 hk).1 (fun e => by
    obtain ⟨o', h1, h2⟩ := hr k e.symm
    rw [hk] at h1
    cases h1
    rw [ho] at h2
    cases h2)).trans hk
  exact ⟨key h.r1 rfl, key h.r2 rfl, key h.lo rfl, key h.hi rfl, key h.bx rfl, h.bel.grown hg h.bel.size hB⟩
theorem BxB.same {w W W' : World} {bl bm cb g0 : Nat} {lx ly hx hy : Int} (h : BxB w bl bm cb g0 lx ly hx hy W) (hb : Below W.heap.size W W') : BxB w bl bm cb g0 lx ly hx hy W' :=
  h.grow (grown_of_below hb) (fun r e => by cases e) (fun r e => by cases e)
theorem BxB.kp {w W W' : World} {bl bm cb g0 : Nat} {a b c d a' b' c' d' : Int} (h : BxB w bl bm cb g0 a b c d W) (h' : BxB w bl bm cb g0 a' b' c' d' W') : KpC w.heap.size cb W W' :=
  ⟨fun k hk => (h'.bel.block k hk).trans (h.bel.block k hk).symm, h'.bx.trans h.bx.symm⟩
theorem BxB.setLo {w W : World} {bl bm cb g0 : Nat} {a b c d : Int} (h : BxB w bl bm cb g0 a b c d W) (h1 : w.heap.size + 2 ≤ bl) (h2 : bl ≠ bm) (h3 : bl ≠ cb) (x y : Int) : BxB w bl bm cb g0 x y c d ((W.setCell ⟨bl, 0, none⟩ (.int .i64 x)).setCell ⟨bl, 1, none⟩ (.int .i64 y)) := by
  have key : ∀ {k : Nat} {o : Obj}, W.heap[k]? = some o → k ≠ bl → ((W.setCell ⟨bl, 0, none⟩ (.int .i64 x)).setCell ⟨bl, 1, none⟩ (.int .i64 y)).heap[k]? = some o := fun hk hne => (Below.heap_setCell _ ⟨bl, 1, none⟩ _ _ hne).trans ((Below.heap_setCell _ ⟨bl, 0, none⟩ _ _ hne).trans hk)
  exact ⟨key h.r1 (by omega), key h.r2 (by omega), pr_set h.lo _ _, key h.hi (Ne.symm h2), key h.bx (Ne.symm h3), pr_below h.bel (by omega) _ _⟩
theorem BxB.setHi {w W : World} {bl bm cb g0 : Nat} {a b c d : Int} (h : BxB w bl bm cb g0 a b c d W) (h1 : w.heap.size + 2 ≤ bm) (h2 : bl ≠ bm) (h3 : bm ≠ cb) (x y : Int) : BxB w bl bm cb g0 a b x y ((W.setCell ⟨bm, 0, none⟩ (.int .i64 x)).setCell ⟨bm, 1, none⟩ (.int .i64 y)) := by
  have key : ∀ {k : Nat} {o : Obj}, W.heap[k]? = some o → k ≠ bm → ((W.setCell ⟨bm, 0, none⟩ (.int .i64 x)).setCell ⟨bm, 1, none⟩ (.int .i64 y)).heap[k]? = some o := fun hk hne => (Below.heap_setCell _ ⟨bm, 1, none⟩ _ _ hne).trans ((Below.heap_setCell _ ⟨bm, 0, none⟩ _ _ hne).trans hk)
  exact ⟨key h.r1 (by omega), key h.r2 (by omega), key h.lo h2, pr_set h.hi _ _, key h.bx (Ne.symm h3), pr_below h.bel (by omega) _ _⟩
end Go.Proofs.Ythpgenkdiokpeaa
