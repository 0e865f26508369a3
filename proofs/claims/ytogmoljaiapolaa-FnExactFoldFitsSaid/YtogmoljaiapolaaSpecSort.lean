/- The model's own sort. -/
import Derived.Test.YtogmoljaiapolaaSort
import Derived.Test.YtogmoljaiapolaaS1a
import Derived.Deep.RegionLaw
namespace Go.Proofs.Ytogmoljaiapolaa
open Go.RowKit

theorem isortTo_app (xs : List Int) (k : Nat) : (isortTo xs k).take (pos (isortTo xs k) (xs.getD k 0)) ++ [xs.getD k 0] ++ (isortTo xs k).drop (pos (isortTo xs k) (xs.getD k 0)) = isortTo xs (k + 1) := by
  rw [isortTo, ins]; simp

theorem ins_list {xs P : List Int} {k J : Nat} {x : Int} (hP : P = isortTo xs k) (hx : x = xs.getD k 0) (hJ : J = pos P x) : ([] ++ P.take J ++ [x]) ++ P.drop J = isortTo xs (k + 1) := by
  subst hP hx hJ
  rw [List.nil_append, isortTo_app]
theorem sl_eq {A : Option Addr} {m n c : Nat} (h : m = n) : Value.slice A m c = .slice A n c := by rw [h]
theorem Own.as {w : World} {B B' m n c : Nat} {A : Option Addr} {xs ys : List Int} (h : Own w B A m c xs) (hm : m = n) (hx : xs = ys) (hB : B' ≤ B) : Own w B' A n c ys := by subst hm hx; exact h.lower hB
theorem lit_second (wq : World) (o : Obj) : Own ((wq.alloc o).alloc (.cells #[] 3)).drew wq.heap.size (some ⟨wq.heap.size + 1, 0, none⟩) 0 0 [] := by
  have h := (Own.lit (wq.alloc o) (B := wq.heap.size) (by simp) [] (by simp)).dr
  rw [World.size_alloc] at h
  exact h
theorem lit_after (wq w1 : World) (x : Int) {n c : Nat} (g1 : ((wq.alloc (.cells #[] 3)).alloc (.cells #[.int .i64 x] 3)).drew.grownBy w1 (Value.slice (some ⟨wq.heap.size, 0, none⟩) n c).ownBlock) : Rd w1 (some ⟨wq.heap.size + 1, 0, none⟩) 1 [x] := by
  have h := (rd_one (wq.alloc (.cells #[] 3)) x).dr
  rw [World.size_alloc] at h
  refine Rd.kept h g1 fun b off e => ?_
  injection e with e
  injection e with e _ _
  simp [Value.ownBlock]
  omega
theorem lit_ahead (wq w1 : World) (x : Int) {n c : Nat} (g1 : ((wq.alloc (.cells #[.int .i64 x] 3)).alloc (.cells #[] 3)).drew.grownBy w1 (Value.slice (some ⟨wq.heap.size + 1, 0, none⟩) n c).ownBlock) : Rd w1 (some ⟨wq.heap.size, 0, none⟩) 1 [x] := by
  refine Rd.kept ((rd_one wq x).al (.cells #[] 3)).dr g1 fun b off e => ?_
  injection e with e
  injection e with e _ _
  simp [Value.ownBlock]
  omega
end Go.Proofs.Ytogmoljaiapolaa
