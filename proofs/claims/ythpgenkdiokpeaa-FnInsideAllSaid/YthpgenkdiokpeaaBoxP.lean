/- Pure facts of boxes: a convex path's area fits into its box. -/
import Derived.Test.YthpgenkdiokpeaaOrdP
namespace Go.Proofs.Ythpgenkdiokpeaa

/-- Twice the area by the heights of steps. -/
theorem area_high {l : List Pt} (hc : tot l = (0, 0)) : areaP l = sumF (fun i => ((cor l i).1 + (cor l ((i + 1) % l.length)).1) * (atP l i).2) l.length := by
  have e : ∀ i, i < l.length → crs (cor l i) (cor l ((i + 1) % l.length)) = ((cor l i).1 + (cor l ((i + 1) % l.length)).1) * (atP l i).2 + ((fun j => -((cor l (j % l.length)).1 * (cor l (j % l.length)).2)) (i + 1) - (fun j => -((cor l (j % l.length)).1 * (cor l (j % l.length)).2)) i) := fun i hi => by
    show _ = _ + (-((cor l ((i + 1) % l.length)).1 * (cor l ((i + 1) % l.length)).2) - -((cor l (i % l.length)).1 * (cor l (i % l.length)).2))
    rw [Nat.mod_eq_of_lt hi, cor_next hc hi]
    simp only [crs, addP]
    grind
  unfold areaP
  rw [sumF_congr e, sumF_add, sumF_tele (fun j => -((cor l (j % l.length)).1 * (cor l (j % l.length)).2)) l.length, Nat.mod_self, Nat.zero_mod]
  omega
/-- How high the steps upwards lead together. -/
def upH (l : List Pt) : Int := (l.map fun s => max s.2 0).sum
def dnH (l : List Pt) : Int := (l.map fun s => max (-s.2) 0).sum
theorem upH_perm {l m : List Pt} (h : l.Perm m) : upH l = upH m := by
  unfold upH
  induction h with
  | nil => rfl
  | cons x _ ih => simp only [List.map_cons, List.sum_cons, ih]
  | swap x y t => simp only [List.map_cons, List.sum_cons]; omega
  | trans _ _ h1 h2 => exact h1.trans h2
theorem up_dn : ∀ l : List Pt, upH l - dnH l = (tot l).2
  | [] => rfl
  | s :: t => by
    have h := up_dn t
    rw [tot_cons]
    simp only [upH, dnH, List.map_cons, List.sum_cons, addP] at h ⊢
    omega
theorem upH_up : ∀ l : List Pt, (∀ s ∈ l, upB s = true) → upH l = (tot l).2
  | [], _ => rfl
  | s :: t, h => by
    have h1 := upH_up t fun x hx => h x (by simp [hx])
    have h2 := h s (by simp)
    rw [tot_cons]
    simp only [upB, Bool.or_eq_true, Bool.and_eq_true, decide_eq_true_eq] at h2
    simp only [upH, List.map_cons, List.sum_cons, addP] at h1 ⊢
    omega
theorem upH_dn : ∀ l : List Pt, (∀ s ∈ l, upB s = false) → upH l = 0
  | [], _ => rfl
  | s :: t, h => by
    have h1 := upH_dn t fun x hx => h x (by simp [hx])
    have h2 := h s (by simp)
    simp only [upB, Bool.or_eq_false_iff, Bool.and_eq_false_iff, decide_eq_false_iff_not] at h2
    simp only [upH, List.map_cons, List.sum_cons] at h1 ⊢
    omega
theorem upH_app (a b : List Pt) : upH (a ++ b) = upH a + upH b := by simp [upH]
/-- What is gone through from a corner on leads to a corner. -/
theorem rot_pre {l : List Pt} (hc : tot l = (0, 0)) {k : Nat} (hk : k ≤ l.length) {A B : List Pt} (e : rotL l k = A ++ B) : ∃ i j, i ≤ l.length ∧ j ≤ l.length ∧ tot A = subP (cor l i) (cor l j) := by
  have hs : addP (tot (l.take k)) (tot (l.drop k)) = (0, 0) := by rw [← tot_append, List.take_append_drop]; exact hc
  simp only [addP, Prod.mk.injEq] at hs
  have key : ∀ X Y, l = X ++ Y → tot X = cor l X.length ∧ X.length ≤ l.length := fun X Y e => by
    unfold cor
    exact ⟨by rw [show l.take X.length = X by rw [e]; simp], by rw [e]; simp⟩
  unfold rotL at e
  rcases List.append_eq_append_iff.1 e with ⟨A', e1, e2⟩ | ⟨C, e1, e2⟩
  · obtain ⟨h1, h2⟩ := key A' (B ++ l.drop k) (by rw [← List.append_assoc, ← e2, List.take_append_drop])
    refine ⟨A'.length, k, h2, hk, ?_⟩
    rw [e1, tot_append, h1]
    unfold cor
    exact Prod.ext (by simp only [addP, subP]; omega) (by simp only [addP, subP]; omega)
  · obtain ⟨h1, h2⟩ := key (l.take k ++ A) C (by rw [List.append_assoc, ← e1, List.take_append_drop])
    refine ⟨_, k, h2, hk, ?_⟩
    rw [← h1, tot_append]
    unfold cor
    exact Prod.ext (by simp only [addP, subP]; omega) (by simp only [addP, subP]; omega)
theorem sumF_le {f g : Nat → Int} {n : Nat} (h : ∀ i, i < n → f i ≤ g i) : sumF f n ≤ sumF g n := sumF_mono h
theorem cor_inbox {l : List Pt} (hc : tot l = (0, 0)) (h0 : 0 < l.length) {i : Nat} (hi : i ≤ l.length) : (loN (cxN l) l.length ≤ (cor l i).1 ∧ (cor l i).1 ≤ hiN (cxN l) l.length) ∧ (loN (cyN l) l.length ≤ (cor l i).2 ∧ (cor l i).2 ≤ hiN (cyN l) l.length) := by
  have key : ∀ j, j < l.length → (loN (cxN l) l.length ≤ (cor l j).1 ∧ (cor l j).1 ≤ hiN (cxN l) l.length) ∧ (loN (cyN l) l.length ≤ (cor l j).2 ∧ (cor l j).2 ≤ hiN (cyN l) l.length) := fun j hj =>
    ⟨⟨loN_le (f := cxN l) hj, le_hiN (f := cxN l) hj⟩, loN_le (f := cyN l) hj, le_hiN (f := cyN l) hj⟩
  rcases Nat.lt_or_eq_of_le hi with hi | rfl
  · exact key i hi
  · rw [cor_len, hc, ← cor_zero l]
    exact key 0 h0
theorem box_area {l : List Pt} (h : IsPath l) (hc : convB l = true) : areaP l ≤ 2 * ((hiN (cxN l) l.length - loN (cxN l) l.length) * (hiN (cyN l) l.length - loN (cyN l) l.length)) := by
  have h0 : 0 < l.length := by have := h.lo; omega
  obtain ⟨k, U, L, u, v, hk, H⟩ := halves h.nz hc
  obtain ⟨i, j, hi, hj, e⟩ := rot_pre h.closed hk H.eq
  have b1 := cor_inbox h.closed h0 hi
  have b2 := cor_inbox h.closed h0 hj
  have hp : (rotL l k).Perm l := by
    unfold rotL
    conv => rhs; rw [← List.take_append_drop k l]
    exact List.perm_append_comm
  have hu : upH l = (tot (U ++ [u])).2 := by rw [← upH_perm hp, H.eq, upH_app, upH_dn _ H.dnL, upH_up _ H.upU]; omega
  have hd := up_dn l
  rw [h.closed] at hd
  rw [e] at hu
  simp only [subP] at hu
  obtain ⟨xh, exh⟩ : ∃ x, x = hiN (cxN l) l.length := ⟨_, rfl⟩
  obtain ⟨xl, exl⟩ : ∃ x, x = loN (cxN l) l.length := ⟨_, rfl⟩
  have hle : areaP l ≤ sumF (fun i => 2 * xh * max (atP l i).2 0 - 2 * xl * max (-(atP l i).2) 0) l.length := by
    rw [area_high h.closed]
    refine sumF_mono fun i hi => ?_
    have c1 := (cor_inbox h.closed h0 (i := i) (by omega)).1
    have c2 := (cor_inbox h.closed h0 (i := (i + 1) % l.length) (Nat.le_of_lt (Nat.mod_lt _ h0))).1
    rw [← exh, ← exl] at c1 c2
    generalize (cor l i).1 = p at *
    generalize (cor l ((i + 1) % l.length)).1 = q at *
    generalize (atP l i).2 = y at *
    rcases Int.le_total 0 y with hy | hy
    · rw [Int.max_eq_left hy, Int.max_eq_right (by omega)]
      have := Int.mul_le_mul_of_nonneg_right (show p + q ≤ 2 * xh by omega) hy
      omega
    · rw [Int.max_eq_right hy, Int.max_eq_left (by omega)]
      have := Int.mul_le_mul_of_nonneg_right (show 2 * xl ≤ p + q by omega) (show 0 ≤ -y by omega)
      rw [Int.mul_neg, Int.mul_neg] at this
      rw [Int.mul_neg]
      omega
  have hsum : sumF (fun i => 2 * xh * max (atP l i).2 0 - 2 * xl * max (-(atP l i).2) 0) l.length = 2 * xh * upH l - 2 * xl * dnH l := by
    have e1 : (fun i => 2 * xh * max (atP l i).2 0 - 2 * xl * max (-(atP l i).2) 0) = fun i => 2 * xh * max (atP l i).2 0 + (-(2 * xl)) * max (-(atP l i).2) 0 := by
      funext i
      rw [Int.neg_mul]; omega
    have e2 := sumF_list (fun s => max s.2 0) l
    have e3 := sumF_list (fun s => max (-s.2) 0) l
    rw [e1, sumF_add, sumF_mul, sumF_mul, e2, e3, Int.neg_mul]
    unfold upH dnH
    omega
  rw [hsum, show dnH l = upH l by omega] at hle
  rw [← exh, ← exl]
  have hW : 0 ≤ xh - xl := by omega
  have hH : upH l ≤ hiN (cyN l) l.length - loN (cyN l) l.length := by omega
  have := Int.mul_le_mul_of_nonneg_left hH hW
  have e4 : 2 * xh * upH l - 2 * xl * upH l = 2 * ((xh - xl) * upH l) := by grind
  omega
theorem box_pos {l : List Pt} (h : IsPath l) (hc : convB l = true) : 1 ≤ hiN (cxN l) l.length - loN (cxN l) l.length ∧ 1 ≤ hiN (cyN l) l.length - loN (cyN l) l.length := by
  have h1 := box_area h hc
  have h2 := h.area_pos hc
  have hb := h.box_bd (Nat.le_refl _)
  obtain ⟨W, eW⟩ : ∃ W, W = hiN (cxN l) l.length - loN (cxN l) l.length := ⟨_, rfl⟩
  obtain ⟨H, eH⟩ : ∃ H, H = hiN (cyN l) l.length - loN (cyN l) l.length := ⟨_, rfl⟩
  rw [← eW, ← eH] at h1 ⊢
  have hW : 0 ≤ W := by omega
  have hH : 0 ≤ H := by omega
  constructor
  · rcases Int.lt_or_le 0 W with h | h
    · omega
    · have : W = 0 := by omega
      rw [this, Int.zero_mul] at h1
      omega
  · rcases Int.lt_or_le 0 H with h | h
    · omega
    · have : H = 0 := by omega
      rw [this, Int.mul_zero] at h1
      omega
end Go.Proofs.Ythpgenkdiokpeaa
