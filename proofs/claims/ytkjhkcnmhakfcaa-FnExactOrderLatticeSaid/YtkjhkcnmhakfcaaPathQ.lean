/- Pure facts of chapter 6. -/
import Derived.Test.YtkjhkcnmhakfcaaPathP
namespace Go.Proofs.Ytkjhkcnmhakfcaa
/-! The rim, and its parity. -/
def gcdP (s : Pt) : Int := (Nat.gcd s.1.natAbs s.2.natAbs : Nat)
def rimP (l : List Pt) : Int := sumF (fun i => gcdP (atP l i)) l.length
theorem gcdP_bd {s : Pt} (h : stepP s) : 1 ≤ gcdP s ∧ gcdP s ≤ 9 := by
  obtain ⟨x, y⟩ := s
  simp only [stepP, ne_eq, Prod.mk.injEq, not_and] at h
  show 1 ≤ ((Nat.gcd x.natAbs y.natAbs : Nat) : Int) ∧ ((Nat.gcd x.natAbs y.natAbs : Nat) : Int) ≤ 9
  have h1 : 0 < Nat.gcd x.natAbs y.natAbs := by
    rcases Nat.eq_zero_or_pos (Nat.gcd x.natAbs y.natAbs) with e | e
    · have := Nat.gcd_eq_zero_iff.1 e
      omega
    · exact e
  by_cases hx : x = 0
  · have h2 : Nat.gcd x.natAbs y.natAbs ≤ y.natAbs := Nat.gcd_le_right _ (by omega)
    omega
  · have h2 : Nat.gcd x.natAbs y.natAbs ≤ x.natAbs := Nat.gcd_le_left _ (by omega)
    omega
def parQ (s : Pt) : Int := s.1 + s.2 + s.1 * s.2
theorem gcd_par {s : Pt} (h : stepP s) : (gcdP s - parQ s) % 2 = 0 := by
  have key : ∀ a b : Fin 19, (((Nat.gcd ((a.1 : Int) - 9).natAbs ((b.1 : Int) - 9).natAbs : Nat) : Int) - (((a.1 : Int) - 9) + ((b.1 : Int) - 9) + ((a.1 : Int) - 9) * ((b.1 : Int) - 9))) % 2 = 0 := by decide +kernel
  obtain ⟨x, y⟩ := s
  unfold stepP at h
  have h1 := key ⟨(x + 9).toNat, by omega⟩ ⟨(y + 9).toNat, by omega⟩
  have ex : (((x + 9).toNat : Nat) : Int) - 9 = x := by omega
  have ey : (((y + 9).toNat : Nat) : Int) - 9 = y := by omega
  simp only [ex, ey] at h1
  exact h1
def sumQ : List Pt → Int
  | [] => 0
  | s :: t => parQ s + sumQ t
theorem area_par : ∀ l : List Pt, (arP (0, 0) l - sumQ l + parQ (tot l)) % 2 = 0
  | [] => by simp [arP, sumQ, parQ, tot]
  | s :: t => by
    have h := area_par t
    rw [arP_cons]
    have e : arP (0, 0) t + crs s (tot t) - sumQ (s :: t) + parQ (tot (s :: t)) = (arP (0, 0) t - sumQ t + parQ (tot t)) + 2 * (s.1 * (tot t).2) := by
      simp only [sumQ, parQ, tot, addP, crs]; grind
    rw [e]
    omega
theorem sumF_list (f : Pt → Int) : ∀ l : List Pt, sumF (fun i => f (atP l i)) l.length = (l.map f).sum := by
  intro l
  have key : ∀ k, k ≤ l.length → sumF (fun i => f (atP l i)) k = ((l.take k).map f).sum := by
    intro k
    induction k with
    | zero => intro _; simp [sumF]
    | succ k ih =>
      intro hk
      rw [sumF, ih (by omega), List.take_succ_eq_append_getElem (by omega), List.map_append, List.sum_append, atP_lt (by omega)]
      simp
  have := key l.length (Nat.le_refl _)
  rwa [List.take_length] at this
theorem rimP_sum (l : List Pt) : rimP l = (l.map gcdP).sum := sumF_list gcdP l
theorem sumQ_par : ∀ l : List Pt, (∀ s ∈ l, stepP s) → ((l.map gcdP).sum - sumQ l) % 2 = 0
  | [], _ => by simp [sumQ]
  | s :: t, h => by
    have h1 := sumQ_par t (fun x hx => h x (by simp [hx]))
    have h2 := gcd_par (h s (by simp))
    simp only [List.map_cons, List.sum_cons, sumQ]
    omega
theorem IsPath.even {l : List Pt} (h : IsPath l) : (areaP l - rimP l) % 2 = 0 := by
  have h1 := area_par l
  have h2 := sumQ_par l h.steps
  rw [h.closed] at h1
  rw [areaP_ar h.closed, rimP_sum]
  simp only [parQ] at h1
  omega
theorem IsPath.rim_bd {l : List Pt} (h : IsPath l) {k : Nat} (hk : k ≤ l.length) : 0 ≤ sumF (fun i => gcdP (atP l i)) k ∧ sumF (fun i => gcdP (atP l i)) k ≤ 72 := by
  have h8 := h.hi
  have key : ∀ k, k ≤ l.length → (k : Int) ≤ sumF (fun i => gcdP (atP l i)) k ∧ sumF (fun i => gcdP (atP l i)) k ≤ 9 * k := by
    intro k
    induction k with
    | zero => intro _; simp [sumF]
    | succ k ih =>
      intro hk
      have h1 := ih (by omega)
      have h2 := gcdP_bd (h.at_ (i := k) (by omega))
      simp only [sumF]
      omega
  have := key k hk
  omega
theorem IsPath.rim_len {l : List Pt} (h : IsPath l) : (l.length : Int) ≤ rimP l := by
  have key : ∀ k, k ≤ l.length → (k : Int) ≤ sumF (fun i => gcdP (atP l i)) k := by
    intro k
    induction k with
    | zero => intro _; simp [sumF]
    | succ k ih =>
      intro hk
      have h1 := ih (by omega)
      have h2 := gcdP_bd (h.at_ (i := k) (by omega))
      simp only [sumF]
      omega
  exact key _ (Nat.le_refl _)
/-- Points inside, by area and rim. -/
def inPt (l : List Pt) : Int := (areaP l - rimP l) / 2 + 1
theorem tdiv_even {d : Int} (h : d % 2 = 0) : Int.tdiv d 2 = d / 2 := by
  obtain ⟨e, rfl⟩ : ∃ e, d = 2 * e := ⟨d / 2, by omega⟩
  rw [Int.mul_tdiv_cancel_left _ (by omega)]
  omega
theorem inPt_impl {l : List Pt} (h : IsPath l) : Int.tdiv (areaP l - rimP l) 2 + 1 = inPt l := by
  rw [tdiv_even h.even]; rfl
theorem inPt_spec {l : List Pt} (h : IsPath l) : Int.tdiv (areaP l - rimP l + 2) 2 = inPt l := by
  have := h.even
  rw [tdiv_even (by omega)]
  unfold inPt
  omega

/-! Boxes. -/
def loN (f : Nat → Int) : Nat → Int
  | 0 => 0
  | k + 1 => min (loN f k) (f k)
def hiN (f : Nat → Int) : Nat → Int
  | 0 => 0
  | k + 1 => max (hiN f k) (f k)
theorem loN_le {f : Nat → Int} : ∀ {k i : Nat}, i < k → loN f k ≤ f i
  | k + 1, i, h => by
    simp only [loN]
    by_cases e : i = k
    · subst e; omega
    · have := loN_le (f := f) (k := k) (i := i) (by omega); omega
theorem le_hiN {f : Nat → Int} : ∀ {k i : Nat}, i < k → f i ≤ hiN f k
  | k + 1, i, h => by
    simp only [hiN]
    by_cases e : i = k
    · subst e; omega
    · have := le_hiN (f := f) (k := k) (i := i) (by omega); omega
theorem loN_bd {f : Nat → Int} {b : Int} (hb : 0 ≤ b) : ∀ {k : Nat}, (∀ i, i < k → -b ≤ f i ∧ f i ≤ b) → -b ≤ loN f k ∧ loN f k ≤ 0
  | 0, _ => by simp [loN]; omega
  | k + 1, h => by
    have h1 := loN_bd (k := k) hb (fun i hi => h i (by omega))
    have h2 := h k (by omega)
    simp only [loN]
    omega
theorem hiN_bd {f : Nat → Int} {b : Int} (hb : 0 ≤ b) : ∀ {k : Nat}, (∀ i, i < k → -b ≤ f i ∧ f i ≤ b) → 0 ≤ hiN f k ∧ hiN f k ≤ b
  | 0, _ => by simp [hiN]; omega
  | k + 1, h => by
    have h1 := hiN_bd (k := k) hb (fun i hi => h i (by omega))
    have h2 := h k (by omega)
    simp only [hiN]
    omega
abbrev cxN (l : List Pt) (i : Nat) : Int := (cor l i).1
abbrev cyN (l : List Pt) (i : Nat) : Int := (cor l i).2
/-- The number of points inside, of a grid. -/
def gridN (f : Int → Int → Bool) (x0 y0 : Int) (m : Nat) : Nat → Nat
  | 0 => 0
  | i + 1 => gridN f x0 y0 m i + numN (fun j => f (x0 + i) (y0 + j)) m
theorem numN_none {f : Nat → Bool} : ∀ {n : Nat}, (∀ i, i < n → f i = false) → numN f n = 0
  | 0, _ => rfl
  | n + 1, h => by rw [numN, numN_none (fun i hi => h i (by omega)), h n (by omega)]; rfl
theorem numN_add (f : Nat → Bool) (a : Nat) : ∀ b, numN f (a + b) = numN f a + numN (fun i => f (a + i)) b
  | 0 => rfl
  | b + 1 => by rw [← Nat.add_assoc, numN, numN, numN_add f a b, Nat.add_assoc]
theorem numN_mid {f : Nat → Bool} {n a m : Nat} (h : a + m ≤ n) (h1 : ∀ i, i < n → f i = true → a ≤ i ∧ i < a + m) : numN f n = numN (fun i => f (a + i)) m := by
  obtain ⟨r, rfl⟩ : ∃ r, n = a + (m + r) := ⟨n - a - m, by omega⟩
  rw [numN_add, numN_none (n := a) (fun i hi => by
    cases e : f i with
    | false => rfl
    | true => have := h1 i (by omega) e; omega), numN_add (fun i => f (a + i)) m r, numN_none (n := r) (fun i hi => by
    cases e : f (a + (m + i)) with
    | false => rfl
    | true => have := h1 (a + (m + i)) (by omega) e; omega)]
  omega
theorem gridN_zero {f : Int → Int → Bool} {x0 y0 : Int} {m : Nat} : ∀ {n : Nat}, (∀ i, i < n → ∀ j, j < m → f (x0 + (i : Nat)) (y0 + (j : Nat)) = false) → gridN f x0 y0 m n = 0
  | 0, _ => rfl
  | n + 1, h => by
    rw [gridN, gridN_zero (fun i hi => h i (by omega)), numN_none (fun j hj => h n (by omega) j hj)]
theorem gridN_add (f : Int → Int → Bool) (x0 y0 : Int) (m a : Nat) : ∀ b, gridN f x0 y0 m (a + b) = gridN f x0 y0 m a + gridN f (x0 + a) y0 m b
  | 0 => rfl
  | b + 1 => by
    rw [← Nat.add_assoc, gridN, gridN, gridN_add f x0 y0 m a b, Nat.add_assoc]
    congr 2
    refine numN_congr fun j _ => ?_
    rw [Int.natCast_add, Int.add_assoc]
theorem gridN_cut {f : Int → Int → Bool} {x0 y0 : Int} {M a m : Nat} (h : a + m ≤ M) : ∀ {n : Nat}, (∀ i, i < n → ∀ j, j < M → f (x0 + (i : Nat)) (y0 + (j : Nat)) = true → a ≤ j ∧ j < a + m) → gridN f x0 y0 M n = gridN f x0 (y0 + a) m n
  | 0, _ => rfl
  | n + 1, h1 => by
    rw [gridN, gridN, gridN_cut h (fun i hi => h1 i (by omega)), numN_mid h (h1 n (by omega))]
    congr 1
    refine numN_congr fun j _ => ?_
    rw [Int.natCast_add, Int.add_assoc]
/-- What lies in a box is counted within it. -/
theorem gridN_box {f : Int → Int → Bool} {x0 y0 x1 y1 : Int} {N M n m : Nat} (hx0 : x0 ≤ x1) (hx : x1 + n ≤ x0 + N) (hy0 : y0 ≤ y1) (hy : y1 + m ≤ y0 + M) (hf : ∀ x y, f x y = true → (x1 ≤ x ∧ x < x1 + n) ∧ (y1 ≤ y ∧ y < y1 + m)) :
    gridN f x0 y0 M N = gridN f x1 y1 m n := by
  obtain ⟨a, ha⟩ : ∃ a : Nat, x1 = x0 + a := ⟨(x1 - x0).toNat, by omega⟩
  obtain ⟨b, hb⟩ : ∃ b : Nat, y1 = y0 + b := ⟨(y1 - y0).toNat, by omega⟩
  obtain ⟨r, rfl⟩ : ∃ r, N = a + (n + r) := ⟨N - a - n, by omega⟩
  rw [gridN_cut (a := b) (m := m) (by omega) (fun i _ j _ h => by have := hf _ _ h; omega), ← hb, gridN_add, gridN_zero (n := a) (fun i hi j _ => by
    cases e : f (x0 + (i : Nat)) (y1 + (j : Nat)) with
    | false => rfl
    | true => have := hf _ _ e; omega), ← ha, gridN_add, gridN_zero (n := r) (fun i hi j _ => by
    cases e : f (x1 + (n : Nat) + (i : Nat)) (y1 + (j : Nat)) with
    | false => rfl
    | true => have := hf _ _ e; omega)]
  omega
def insF (l : List Pt) (x y : Int) : Bool := lftB l (x, y)
/-- The number of points inside. -/
def allPt (l : List Pt) : Nat := gridN (insF l) (-72) (-72) 145 145
theorem ins_box {l : List Pt} (h : IsPath l) (x y : Int) (hi : insF l x y = true) : (loN (cxN l) l.length ≤ x ∧ x ≤ hiN (cxN l) l.length) ∧ (loN (cyN l) l.length ≤ y ∧ y ≤ hiN (cyN l) l.length) := by
  have h0 : 0 < l.length := by have := h.lo; omega
  obtain ⟨i1, b1, c1⟩ := ins_side h.closed h0 hi 1 0
  obtain ⟨i2, b2, c2⟩ := ins_side h.closed h0 hi (-1) 0
  obtain ⟨i3, b3, c3⟩ := ins_side h.closed h0 hi 0 1
  obtain ⟨i4, b4, c4⟩ := ins_side h.closed h0 hi 0 (-1)
  have d1 := le_hiN (f := cxN l) b1
  have d2 := loN_le (f := cxN l) b2
  have d3 := le_hiN (f := cyN l) b3
  have d4 := loN_le (f := cyN l) b4
  simp only [cxN, cyN] at *
  omega
theorem IsPath.box_bd {l : List Pt} (h : IsPath l) {k : Nat} (hk : k ≤ l.length) : ((-72 ≤ loN (cxN l) k ∧ loN (cxN l) k ≤ 0) ∧ (0 ≤ hiN (cxN l) k ∧ hiN (cxN l) k ≤ 72)) ∧ ((-72 ≤ loN (cyN l) k ∧ loN (cyN l) k ≤ 0) ∧ (0 ≤ hiN (cyN l) k ∧ hiN (cyN l) k ≤ 72)) := by
  have hx : ∀ i, i < k → -72 ≤ cxN l i ∧ cxN l i ≤ 72 := fun i hi => (h.bd72 (k := i) (by omega)).1
  have hy : ∀ i, i < k → -72 ≤ cyN l i ∧ cyN l i ≤ 72 := fun i hi => (h.bd72 (k := i) (by omega)).2
  exact ⟨⟨loN_bd (by omega) hx, hiN_bd (by omega) hx⟩, loN_bd (by omega) hy, hiN_bd (by omega) hy⟩
/-- The box has all of them. -/
theorem allP_box {l : List Pt} (h : IsPath l) : gridN (insF l) (loN (cxN l) l.length) (loN (cyN l) l.length) (hiN (cyN l) l.length + 1 - loN (cyN l) l.length).toNat (hiN (cxN l) l.length + 1 - loN (cxN l) l.length).toNat = allPt l := by
  have hb := h.box_bd (Nat.le_refl _)
  refine (gridN_box (by omega) (by omega) (by omega) (by omega) (fun x y hf => ?_)).symm
  have := ins_box h x y hf
  omega
theorem gridN_le (f : Int → Int → Bool) (x0 y0 : Int) (m : Nat) : ∀ n, gridN f x0 y0 m n ≤ n * m
  | 0 => by simp [gridN]
  | n + 1 => by
    have h1 := gridN_le f x0 y0 m n
    have h2 := numN_le (fun j => f (x0 + n) (y0 + j)) m
    rw [gridN, Nat.succ_mul]
    omega
end Go.Proofs.Ytkjhkcnmhakfcaa
