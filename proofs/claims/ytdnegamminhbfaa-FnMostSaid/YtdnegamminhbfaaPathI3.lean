/- Rows reversed in place; the program's paths gone backwards. -/
import Derived.Test.YtdnegamminhbfaaPathI2
import Derived.BigRegion
namespace Go.Proofs.Ytdnegamminhbfaa
open Go.RowKit Go.Sort Go.Lib

/-- A list of values, of which the first k places and the last k ones are exchanged. -/
def RevV (xs : List Value) (k : Nat) (ys : List Value) : Prop := ys.length = xs.length ∧ ∀ p, p < xs.length → ys[p]? = if p < k ∨ xs.length ≤ p + k then xs[xs.length - 1 - p]? else xs[p]?
theorem RevV.zero (xs : List Value) : RevV xs 0 xs := ⟨rfl, fun p hp => by rw [if_neg (by omega)]⟩
theorem RevV.step {xs ys : List Value} {k j : Nat} (h : RevV xs k ys) (hj : j + k + 1 = xs.length) (hkj : k < j) {X Y : Value} (hX : ys[k]? = some X) (hY : ys[j]? = some Y) : RevV xs (k + 1) ((ys.set k Y).set j X) := by
  have e1 := h.2 k (by omega)
  have e2 := h.2 j (by omega)
  rw [if_neg (by omega), hX] at e1
  rw [if_neg (by omega), hY] at e2
  refine ⟨by simp [h.1], fun p hp => ?_⟩
  have hl := h.1
  by_cases hpj : p = j
  · subst hpj
    rw [List.getElem?_set_self (by simp; omega), if_pos (by omega), show xs.length - 1 - p = k by omega, e1]
  · rw [List.getElem?_set_ne (by omega)]
    by_cases hpk : p = k
    · subst hpk
      rw [List.getElem?_set_self (by omega), if_pos (by omega), show xs.length - 1 - p = j by omega, e2]
    · rw [List.getElem?_set_ne (by omega), h.2 p hp]
      by_cases hc : p < k ∨ xs.length ≤ p + k
      · rw [if_pos hc, if_pos (by omega)]
      · rw [if_neg hc, if_neg (by omega)]
theorem RevV.done {xs ys : List Value} {k : Nat} (h : RevV xs k ys) (hk : xs.length ≤ k + k + 1) : ys = xs.reverse := by
  apply List.ext_getElem?
  intro p
  by_cases hp : p < xs.length
  · rw [h.2 p hp, List.getElem?_reverse hp]
    by_cases hc : p < k ∨ xs.length ≤ p + k
    · rw [if_pos hc]
    · rw [if_neg hc, show xs.length - 1 - p = p by omega]
  · rw [List.getElem?_eq_none (by have := h.1; omega), List.getElem?_eq_none (by simp; omega)]

theorem zip_at {gs : List Nat} {L : List (List Int)} (hl : gs.length = L.length) {i : Nat} (h : i < L.length) : ((gs.zip L).map fun p => rowW p.1 p.2)[i]? = some (rowW (gs.getD i 0) (rowL L i)) := zipW_at h hl
theorem zip_rev {gs : List Nat} {L : List (List Int)} (hl : gs.length = L.length) : ((gs.zip L).map fun p => rowW p.1 p.2).reverse = (gs.reverse.zip L.reverse).map fun p => rowW p.1 p.2 := by
  apply List.ext_getElem?
  intro i
  by_cases hi : i < L.length
  · have hlen : ((gs.zip L).map fun p => rowW p.1 p.2).length = L.length := by simp [hl]
    rw [List.getElem?_reverse (by rw [hlen]; exact hi), hlen, zip_at hl (by omega), zip_at (by simp [hl]) (by simpa using hi)]
    simp only [rowL, List.getD_eq_getElem?_getD]
    rw [List.getElem?_reverse hi, List.getElem?_reverse (by omega), hl]
  · rw [List.getElem?_eq_none (by simp [hl]; omega), List.getElem?_eq_none (by simp [hl]; omega)]

/-- The own rows, some of them exchanged. -/
def SRevM (w : World) (B n c : Nat) (A : Option Addr) (vs : List Value) (k : Nat) (wr : World) : Prop := ∃ ys, wr.ownsRow B 30 1 (.slice A n c) n ys ∧ RevV vs k ys ∧ w.grownBy wr (Value.slice A n c).ownBlock
theorem SRevM.dr {w wr : World} {B n c : Nat} {A : Option Addr} {vs : List Value} {k : Nat} (h : SRevM w B n c A vs k wr) : SRevM w B n c A vs k wr.drew := by
  obtain ⟨ys, h1, h2, h3⟩ := h
  exact ⟨ys, h1, h2, ⟨h3.os, h3.tape, h3.output, h3.size, h3.block⟩⟩
theorem SRevM.step {w wr : World} {B n c g k j : Nat} {vs : List Value} (h : SRevM w B n c (some ⟨g, 0, none⟩) vs k wr) (hn : vs.length = n) (hj : j + k + 1 = n) (hkj : k < j) {X Y : Value} (hX : wr.cell? ⟨g, k, none⟩ = some X) (hY : wr.cell? ⟨g, j, none⟩ = some Y) :
    SRevM w B n c (some ⟨g, 0, none⟩) vs (k + 1) ((wr.setCell ⟨g, k, none⟩ Y).setCell ⟨g, j, none⟩ X) := by
  obtain ⟨ys, h1, h2, h3⟩ := h
  have ex := World.ownsRow.cellAt h1 k (by omega)
  have ey := World.ownsRow.cellAt h1 j (by omega)
  rw [hX] at ex
  rw [hY] at ey
  have s1 := World.ownsRow.stored h1 k Y
  have s2 := World.ownsRow.stored s1.1 j X
  exact ⟨_, s2.1, h2.step (by omega) hkj ex.symm ey.symm, grown_trans_row (grown_trans_row h3 s1.2) s2.2⟩

set_option maxRecDepth 100000 in
set_option maxHeartbeats 1000000 in
theorem reverseM_any (A : Option Addr) (n c B : Nat) (gs : List Nat) (L : List (List Int)) (w : World) (h : OwnM w B A n c gs L) (hn : n ≤ 1048576) :
    Calls Try.prog 91 #[.slice A n c] w fun e w' => e = .returned (.tuple #[]) ∧ OwnM w' B A n c gs.reverse L.reverse ∧ (B ≤ w.heap.size → Below B w w') := by
  have hL := h.n
  have HO := Lib.hid h
  have v1 : IntKind.i64.wrap ((n : Int) - 1) = (n : Int) - 1 := wrap_is rfl (by omega) (by omega)
  obtain ⟨vs, evs⟩ : ∃ vs, vs = (gs.zip L).map fun p => rowW p.1 p.2 := ⟨_, rfl⟩
  have hvl : vs.length = n := by rw [evs]; simp [h.len, hL]
  have hat : ∀ i, i < n → ∃ g r, vs[i]? = some (rowW g r) := fun i hi => ⟨_, _, by rw [evs]; exact zip_at h.len (by omega)⟩
  have hrow := h.row
  rw [← evs] at hrow
  have HV := Lib.hid (And.intro evs (And.intro hvl hat))
  have H0 := Lib.hid (show SRevM w B n c A vs 0 w from ⟨vs, hrow, RevV.zero vs, World.grownBy.refl w _⟩)
  clear evs hvl hat hrow
  go_enter Try.func91, Try.ntmps91
  go_wp2_with fail
  go_loopw [2, 3] (fun i j wr => ∃ k : Nat, k + k ≤ n + 1 ∧ i = .int .i64 k ∧ j = .int .i64 ((n : Int) - 1 - k) ∧ SRevM w B n c A vs k wr) (fun i _ _ => n - (intOf i).toNat)
  case atStart => exact ⟨0, by omega, rfl, by simp, H0.out⟩
  case round =>
    obtain ⟨k, hk, rfl, rfl, hs⟩ := hrel
    by_cases hlt : k + k + 1 < n
    · obtain ⟨g, rfl, _, _⟩ := h.at_ (i := 0) (by omega)
      obtain ⟨j, hj⟩ : ∃ j, j + k + 1 = n := ⟨n - k - 1, by omega⟩
      have ej : (n : Int) - 1 - k = (j : Int) := by omega
      rw [ej]
      obtain ⟨ga, ra, gb, rb, hcx, hcy, hfx, hfy⟩ : ∃ ga ra gb rb, wr.cell? ⟨g, k, none⟩ = some (rowW ga ra) ∧ wr.cell? ⟨g, j, none⟩ = some (rowW gb rb) ∧ wr.frozen? ⟨g, k, none⟩ = false ∧ wr.frozen? ⟨g, j, none⟩ = false := by
        obtain ⟨ys, h1, h2, _⟩ := hs
        obtain ⟨ga, ra, e1⟩ := HV.out.2.2 k (by omega)
        obtain ⟨gb, rb, e2⟩ := HV.out.2.2 j (by omega)
        have c1 := World.ownsRow.cellAt h1 k (by omega)
        have c2 := World.ownsRow.cellAt h1 j (by omega)
        have q1 := h2.2 k (by rw [HV.out.2.1]; omega)
        have q2 := h2.2 j (by rw [HV.out.2.1]; omega)
        rw [HV.out.2.1, if_neg (by omega), e1] at q1
        rw [HV.out.2.1, if_neg (by omega), e2] at q2
        exact ⟨ga, ra, gb, rb, c1.trans q1, c2.trans q2, World.ownsRow.frozenAt h1 k, World.ownsRow.frozenAt h1 j⟩
      have hkj : k < j := by omega
      have hjn : j < n := by omega
      have hkn : k < n := by omega
      have v2 : IntKind.i64.wrap ((j : Int) - 1) = (j : Int) - 1 := wrap_is rfl (by omega) (by omega)
      have HS := Lib.hid (hs.step HV.out.2.1 hj hkj hcx hcy)
      have HJ := Lib.hid hj
      clear hs h hj ej
      go_wp2_with fail
      go_region
      go_wp2_with fail
      go_roundw
      case rel => exact ⟨k + 1, by omega, by go_num, by have := HJ.out; congr 1; omega, HS.out.dr⟩
      case measure => simp [intOf]; omega
    · have d1 : decide ((k : Int) < (n : Int) - 1 - k) = false := by rw [decide_eq_false_iff_not]; omega
      clear h v1
      go_wp2_with fail
      go_end0
      obtain ⟨ys, h1, h2, h3⟩ := hs
      obtain rfl : ys = vs.reverse := h2.done (by rw [HV.out.2.1]; omega)
      have ho := HO.out
      rw [HV.out.1, zip_rev ho.len] at h1
      refine ⟨rfl, ⟨h1, by simp [ho.len], (List.reverse_perm gs).nodup_iff.2 ho.nodup, fun i hi => ?_⟩, fun hB => (Below.refl B w).grown h3 hB (fun k e => (ho.blk k e).1)⟩
      rw [List.length_reverse] at hi
      have hi' : L.length - 1 - i < L.length := by omega
      have q1 : gs.reverse.getD i 0 = gs.getD (L.length - 1 - i) 0 := by simp only [List.getD_eq_getElem?_getD]; rw [List.getElem?_reverse (by rw [ho.len]; exact hi), ho.len]
      have q2 : rowL L.reverse i = rowL L (L.length - 1 - i) := by simp only [rowL, List.getD_eq_getElem?_getD]; rw [List.getElem?_reverse hi]
      rw [q1, q2]
      obtain ⟨t1, t2⟩ := ho.rows _ hi'
      exact ⟨t1, t2.kept h3 (ho.ne t2).symm⟩

theorem rowsOf_rev (ps : List Pt) : (rowsOf ps).reverse = rowsOf ps.reverse := by simp [rowsOf]
set_option maxHeartbeats 1000000 in
theorem pathBack_any (A : Option Addr) (n c : Nat) (L : List (List Int)) (w : World) (h : RdM w A n L) (hs : SmallM L) :
    Calls Try.prog 34 #[.slice A n c] w (RowsGot L (fun l => (l.map negP).reverse) w) := by
  have hI := pathOf_any A n c L w h hs
  unfold RowsGot
  cases hp : pathB L with
  | true =>
    rw [ifR_yes _ hp]
    obtain ⟨hP, _⟩ := pathB_true hp
    have h8 : (corL (ptsL L)).length ≤ 8 := by rw [corL_len]; exact hP.hi
    have h3 : 0 < (corL (ptsL L)).length := by rw [corL_len]; have := hP.lo; omega
    have hS : SmallM (rowsOf ((ptsL L).map negP).reverse) := small_rows (by rw [List.length_reverse, List.length_map]; exact hP.hi)
    have hA := fun W gs (hR : Ring W gs (corL (ptsL L))) => lists_any 88 (fun i => negP (subP (atP (corL (ptsL L)) ((i + 1) % (corL (ptsL L)).length)) (atP (corL (ptsL L)) i))) gs _ W hR (by omega) (fun W' i hi hR' => tellBack_any gs _ i W' hi h3 (fun i hi => by have := cor_box hP i hi; omega) hR') (enters_of Try.func88 (by kernel_rfl) rfl)
    have e : (List.range (corL (ptsL L)).length).map (fun i => negP (subP (atP (corL (ptsL L)) ((i + 1) % (corL (ptsL L)).length)) (atP (corL (ptsL L)) i))) = (ptsL L).map negP := by
      apply List.ext_getElem (by simp [corL_len])
      intro i h1 h2
      rw [List.length_map] at h2
      rw [List.getElem_map, List.getElem_map, List.getElem_range, stp_cor hP.closed h2, atP_lt h2]
    rw [e] at hA
    have HA := Lib.hid hA
    have HS := Lib.hid hS
    have HR8 := Lib.hid h8
    rw [hp] at hI
    generalize (corL (ptsL L)).length = m at *
    clear h hs hp hP hA hS h8 h3 e
    go_enter Try.func34, Try.ntmps34
    go_wp2_with fail
    refine hI.mono ?_
    rintro e w1 ⟨⟨v, rfl, hv⟩, b1⟩
    obtain ⟨gs, rfl, hR, _⟩ := hv (by first | rfl | trivial)
    have HR := Lib.hid hR
    clear hv hR
    go_wp2_with fail
    refine (HA.out _ gs HR.out).mono ?_
    rintro e w2 ⟨⟨A', c', rfl, hs', ho⟩, b2⟩
    have hO := ho.lower b1.size
    have hq := reverseM_any A' m c' w.heap.size hs' _ w2 hO (by have := HR8.out; omega)
    have HQ := Lib.hid hq
    have HB := Lib.hid (below_then b1 b2)
    clear ho hO hq
    go_wp2_with fail
    refine HQ.out.mono ?_
    rintro e w3 ⟨rfl, o3, b3⟩
    have hB3 := b3 HB.out.size
    have HO3 := Lib.hid o3
    clear o3 b3
    go_wp2_with fail
    refine bodyPost_ret (results_tmp2 rfl _ _ _) rfl ?_
    exact ⟨⟨A', _, c', rfl, ⟨_, by rw [← rowsOf_rev]; exact HO3.out⟩, HS.out⟩, HB.out.trans hB3⟩
  | false =>
    rw [ifR_no _ hp]
    rw [hp] at hI
    clear h hs hp
    go_enter Try.func34, Try.ntmps34
    go_wp2_with fail
    refine hI.mono ?_
    rintro e w1 ⟨⟨v, rfl, _⟩, b1⟩
    have HE := Lib.hid (OwnM.empty w1 (B := w.heap.size) b1.size)
    go_wp2_with fail
    refine bodyPost_ret (results_tmp2 rfl _ _ _) rfl ?_
    exact ⟨⟨_, 0, 0, rfl, ⟨[], HE.out⟩, small_nil⟩, below_alloc b1 _⟩
end Go.Proofs.Ytdnegamminhbfaa
