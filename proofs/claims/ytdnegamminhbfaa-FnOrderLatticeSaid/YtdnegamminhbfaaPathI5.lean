/- The program's convex paths of lists. -/
import Derived.Test.YtdnegamminhbfaaPathI1
import Derived.Test.YtdnegamminhbfaaConvex
namespace Go.Proofs.Ytdnegamminhbfaa
open Go.RowKit Go.Sort Go.Lib

theorem pt_nz {l : List Pt} (h : IsPath l) {i : Nat} (hi : i < l.length) : atP l i ≠ (0, 0) := h.nz _ (by rw [atP_lt hi]; exact List.getElem_mem hi)
theorem convI_cor {l : List Pt} (h : IsPath l) : convI (corL l) = convB l := by
  have hl := corL_len l
  have h3 := h.lo
  have e1 : ∀ i, i < l.length → stp (corL l) i = atP l i := fun i hi => stp_cor h.closed hi
  have e2 : ∀ i, i < l.length → stp (corL l) ((i + 1) % (corL l).length) = nxt l i := fun i hi => by rw [hl]; exact e1 _ (Nat.mod_lt _ (by omega))
  have ho : ∀ i, i < l.length → okAt (corL l) i = okB (atP l i) (nxt l i) := fun i hi => by show okB _ _ = _; rw [e1 i hi, e2 i hi]
  have ht : (List.range (corL l).length).all (okAt (corL l)) = turnsB l := by
    unfold turnsB
    rw [hl, Bool.eq_iff_iff, List.all_eq_true, List.all_eq_true]
    constructor <;> intro k x hx
    · rw [← ho x (List.mem_range.1 hx)]; exact k x hx
    · rw [ho x (List.mem_range.1 hx)]; exact k x hx
  unfold convI convB
  rw [ht]
  cases hT : turnsB l with
  | false => rfl
  | true =>
    have : numN (fullAt (corL l)) (corL l).length = wrapsN l := by
      unfold wrapsN
      rw [hl]
      refine numN_congr fun i hi => ?_
      show fullB _ _ = _
      rw [e1 i hi, e2 i hi]
      exact wrap_impl (pt_nz h hi) (pt_nz h (Nat.mod_lt _ (by omega))) (turnsB_iff.1 hT i hi)
    rw [this]

theorem ret_tb {v : Value} {a b : Bool} (h : a = b) : Ending.returned (.tuple #[v, .bool a]) = .returned (.tuple #[v, .bool b]) := by rw [h]

end Go.Proofs.Ytdnegamminhbfaa
