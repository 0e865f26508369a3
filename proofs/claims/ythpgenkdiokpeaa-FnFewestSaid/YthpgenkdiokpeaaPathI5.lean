/- The program's convex paths of lists. -/
import Derived.Test.YthpgenkdiokpeaaPathI1
import Derived.Test.YthpgenkdiokpeaaConvex
namespace Go.Proofs.Ythpgenkdiokpeaa
open Go.RowKit Go.Sort Go.Lib

theorem pt_nz {l : List Pt} (h : IsPath l) {i : Nat} (hi : i < l.length) : atP l i ≠ (0, 0) := h.nz _ (by rw [atP_lt hi]; exact List.getElem_mem hi)
theorem convI_cor {l : List Pt} (h : IsPath l) : convI (corL l) = convB l := by
  have hl := corL_len l
  have h3 := h.lo
  have e1 : ∀ i, i < l.length → stp (corL l) i = atP l i := fun i hi => stp_cor h.closed hi
  have e2 : ∀ i, i < l.length → stp (corL l) ((i + 1) % (corL l).length) = nxt l i := fun i hi => by rw [hl]; exact e1 _ (Nat.mod_lt _ (by omega))
  have ho : ∀ i, i < l.length → okAt (corL l) i = okB (atP l i) (nxt l i) := fun i hi => by show okB _ _ = _; rw [e1 i hi, e2 i hi]
  have ht : (List.range (corL l).length).all (okAt (corL l)) = turnsB l := by
    unfold turnsB
    rw [hl, Bool.eq_iff_iff, List.all_eq_true, List.all_eq_true]
    constructor <;> intro k x hx
    · rw [← ho x (List.mem_range.1 hx)]; exact k x hx
    · rw [ho x (List.mem_range.1 hx)]; exact k x hx
  unfold convI convB
  rw [ht]
  cases hT : turnsB l with
  | false => rfl
  | true =>
    have : numN (fullAt (corL l)) (corL l).length = wrapsN l := by
      unfold wrapsN
      rw [hl]
      refine numN_congr fun i hi => ?_
      show fullB _ _ = _
      rw [e1 i hi, e2 i hi]
      exact wrap_impl (pt_nz h hi) (pt_nz h (Nat.mod_lt _ (by omega))) (turnsB_iff.1 hT i hi)
    rw [this]

theorem ret_tb {v : Value} {a b : Bool} (h : a = b) : Ending.returned (.tuple #[v, .bool a]) = .returned (.tuple #[v, .bool b]) := by rw [h]

set_option maxRecDepth 100000 in
set_option maxHeartbeats 4000000 in
theorem convexOf_any (A : Option Addr) (n c : Nat) (L : List (List Int)) (w : World) (h : RdM w A n L) (hs : SmallM L) :
    Calls Try.prog 116 #[.slice A n c] w fun e w' => (∃ v, e = .returned (.tuple #[v, .bool (pathB L && convB (ptsL L))]) ∧ ((pathB L && convB (ptsL L)) = true → ∃ gs, v = ptrV (gs.getD 0 0) ∧ Ring w' gs (corL (ptsL L)) ∧ ∀ i, i < n → w.heap.size ≤ gs.getD i 0)) ∧ Below w.heap.size w w' := by
  have hI := pathOf_any A n c L w h hs
  cases hp : pathB L with
  | true =>
    obtain ⟨hP, _⟩ := pathB_true hp
    have hA := fun W gs (hR : Ring W gs (corL (ptsL L))) => convex_any gs _ W hR (cor_few hP) (fun i hi => by have := cor_box hP i hi; omega)
    rw [convI_cor hP] at hA
    rw [hp] at hI
    rw [Bool.true_and]
    generalize corL (ptsL L) = cs at *
    cases hc : convB (ptsL L) with
    | true =>
      rw [hc] at hA
      have HA := Lib.hid hA
      clear h hs hp hP hA hc
      go_enter Try.func116, Try.ntmps116
      go_wp2_with fail
      refine hI.mono ?_
      rintro e w1 ⟨⟨v, rfl, hv⟩, b1⟩
      obtain ⟨gs, rfl, hR, hg⟩ := hv (by first | rfl | trivial)
      have HR := Lib.hid hR
      have HG := Lib.hid hg
      clear hv hR hg
      go_wp2_with fail
      refine (HA.out _ gs HR.out).mono ?_
      rintro e w2 ⟨rfl, b2⟩
      go_wp2_with fail
      refine bodyPost_ret (results_tmp2 rfl _ _ _) rfl ?_
      exact ⟨⟨_, rfl, fun _ => ⟨gs, rfl, HR.out.same b2, HG.out⟩⟩, below_then b1 b2⟩
    | false =>
      rw [hc] at hA
      have HA := Lib.hid hA
      clear h hs hp hP hA hc
      go_enter Try.func116, Try.ntmps116
      go_wp2_with fail
      refine hI.mono ?_
      rintro e w1 ⟨⟨v, rfl, hv⟩, b1⟩
      obtain ⟨gs, rfl, hR, hg⟩ := hv (by first | rfl | trivial)
      have HR := Lib.hid hR
      clear hv hR hg
      go_wp2_with fail
      refine (HA.out _ gs HR.out).mono ?_
      rintro e w2 ⟨rfl, b2⟩
      go_wp2_with fail
      refine bodyPost_ret (results_tmp2 rfl _ _ _) rfl ?_
      exact ⟨⟨_, rfl, fun h => nomatch h⟩, below_then b1 b2⟩
  | false =>
    rw [hp] at hI
    clear h hs hp
    go_enter Try.func116, Try.ntmps116
    go_wp2_with fail
    refine hI.mono ?_
    rintro e w1 ⟨⟨v, rfl, _⟩, b1⟩
    go_wp2_with fail
    refine bodyPost_ret (results_tmp2 rfl _ _ _) rfl ?_
    exact ⟨⟨_, rfl, fun h => nomatch h⟩, b1⟩

set_option maxRecDepth 100000 in
set_option maxHeartbeats 2000000 in
theorem pathConvex_any (A : Option Addr) (n c : Nat) (L : List (List Int)) (w : World) (h : RdM w A n L) (hs : SmallM L) :
    Calls Try.prog 48 #[.slice A n c] w fun e w' => e = .returned (.bool (pathB L && convB (ptsL L))) ∧ Below w.heap.size w w' := by
  have hP := convexOf_any A n c L w h hs
  generalize (pathB L && convB (ptsL L)) = pb at *
  clear h hs
  go_enter Try.func48, Try.ntmps48
  go_wp2_with fail
  refine hP.mono ?_
  rintro e w1 ⟨⟨v, rfl, _⟩, b1⟩
  go_wp2_with fail
  go_ret
  exact ⟨rfl, b1⟩
end Go.Proofs.Ythpgenkdiokpeaa
