/- The program's areas and rims of lists. -/
import Derived.Test.YtdnegamminhbfaaPathW
import Derived.Test.YtdnegamminhbfaaRim
import Derived.Test.YtdnegamminhbfaaPathS
namespace Go.Proofs.Ytdnegamminhbfaa
open Go.RowKit Go.Sort Go.Lib

theorem stp_cor {l : List Pt} (hc : tot l = (0, 0)) {i : Nat} (h : i < l.length) : subP (atP (corL l) ((i + 1) % (corL l).length)) (atP (corL l) i) = atP l i := by
  rw [corL_len, corL_at (Nat.mod_lt _ (by omega)), corL_at h, cor_next hc h]
  exact Prod.ext (by show (cor l i).1 + (atP l i).1 - (cor l i).1 = _; omega) (by show (cor l i).2 + (atP l i).2 - (cor l i).2 = _; omega)
theorem area_cor (l : List Pt) : sumF (fun i => crs (atP (corL l) i) (atP (corL l) ((i + 1) % (corL l).length))) (corL l).length = areaP l := by
  unfold areaP
  rw [corL_len]
  refine sumF_congr fun i hi => ?_
  rw [corL_at hi, corL_at (Nat.mod_lt _ (by omega))]
theorem rim_cor {l : List Pt} (hc : tot l = (0, 0)) : sumF (fun i => gcdP (subP (atP (corL l) ((i + 1) % (corL l).length)) (atP (corL l) i))) (corL l).length = rimP l := by
  have h1 := corL_len l
  unfold rimP
  rw [← h1]
  refine sumF_congr fun i hi => ?_
  rw [stp_cor hc (by omega)]
theorem cor_box {l : List Pt} (h : IsPath l) : ∀ i, i < (corL l).length → (-72 ≤ (atP (corL l) i).1 ∧ (atP (corL l) i).1 ≤ 72) ∧ (-72 ≤ (atP (corL l) i).2 ∧ (atP (corL l) i).2 ≤ 72) := fun i hi => by
  rw [corL_len] at hi
  rw [corL_at hi]
  exact h.bd72 (by omega)
theorem cor_few {l : List Pt} (h : IsPath l) : (corL l).length < 1000000 := by rw [corL_len]; have := h.hi; omega

theorem pathArea_any (A : Option Addr) (n c : Nat) (L : List (List Int)) (w : World) (h : RdM w A n L) (hs : SmallM L) :
    Calls Try.prog 30 #[.slice A n c] w fun e w' => e = .returned (.tuple #[.int .i64 (ifP L areaP), .bool (pathB L)]) ∧ Below w.heap.size w w' := by
  have hI := pathOf_any A n c L w h hs
  cases hp : pathB L with
  | true =>
    rw [ifP_yes areaP hp]
    obtain ⟨hP, _⟩ := pathB_true hp
    have hA := fun W gs (hR : Ring W gs (corL (ptsL L))) => area_any gs _ W hR (cor_few hP) (fun i hi => by have := cor_box hP i hi; omega)
    rw [area_cor] at hA
    have HA := Lib.hid hA
    rw [hp] at hI
    generalize areaP (ptsL L) = z at *
    clear h hs hp hP hA
    go_enter Try.func30, Try.ntmps30
    go_wp2_with fail
    refine hI.mono ?_
    rintro e w1 ⟨⟨v, rfl, hv⟩, b1⟩
    obtain ⟨gs, rfl, hR, _⟩ := hv (by first | rfl | trivial)
    have HR := Lib.hid hR
    clear hv hR
    go_wp2_with fail
    refine (HA.out _ gs HR.out).mono ?_
    rintro e w2 ⟨rfl, b2⟩
    go_wp2_with fail
    refine bodyPost_ret (results_tmp2 rfl _ _ _) rfl ?_
    exact ⟨rfl, below_then b1 b2⟩
  | false =>
    rw [ifP_no areaP hp]
    rw [hp] at hI
    clear h hs hp
    go_enter Try.func30, Try.ntmps30
    go_wp2_with fail
    refine hI.mono ?_
    rintro e w1 ⟨⟨v, rfl, _⟩, b1⟩
    go_wp2_with fail
    refine bodyPost_ret (results_tmp2 rfl _ _ _) rfl ?_
    exact ⟨rfl, b1⟩

end Go.Proofs.Ytdnegamminhbfaa
