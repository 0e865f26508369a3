/- The number of triangles of a list, told stick by stick; lists in order; two lists in order that are permutations are one. Nothing of the program. -/
import Derived.Test.YtiadnbdefcimiaaThreeP
import Derived.Test.YtiadnbdefcimiaaSortP
namespace Go.Proofs.Ytiadnbdefcimiaa

def t1 (x y : Int) : List Int → Nat
  | [] => 0
  | z :: l => (if triB x y z then 1 else 0) + t1 x y l
def t2 (x : Int) : List Int → Nat
  | [] => 0
  | y :: l => t1 x y l + t2 x l
def t3 : List Int → Nat
  | [] => 0
  | x :: l => t2 x l + t3 l
theorem S_head (f : Nat → Nat) : ∀ n, S (n + 1) f = f 0 + S n (fun i => f (i + 1))
  | 0 => by simp [S]
  | n + 1 => by rw [S, S_head f n, S]; omega
theorem drop_cons {zs : List Int} {a : Nat} (h : a < zs.length) : zs.drop a = zs.getD a 0 :: zs.drop (a + 1) := by
  rw [List.drop_eq_getElem_cons h]; simp [List.getD_eq_getElem?_getD, h]
theorem S_drop (g : List Int → Nat) (h : Int → List Int → Nat) (h0 : g [] = 0) (h1 : ∀ x l, g (x :: l) = h x l + g l) (zs : List Int) :
    ∀ k a, zs.length - a = k → g (zs.drop a) = S k (fun d => h (zs.getD (a + d) 0) (zs.drop (a + d + 1)))
  | 0, a, hk => by rw [List.drop_eq_nil_of_le (by omega), h0]; rfl
  | k + 1, a, hk => by
    rw [drop_cons (show a < zs.length by omega), h1, S_drop g h h0 h1 zs k (a + 1) (by omega), S_head]
    simp only [Nat.add_zero]
    congr 1
    exact S_ext k fun i _ => by rw [show a + (i + 1) = a + 1 + i by omega]
theorem cnt_t3 (zs : List Int) : cntT zs = t3 zs := by
  have e := S_drop t3 t2 rfl (fun _ _ => rfl) zs zs.length 0 (by omega)
  rw [List.drop_zero] at e
  rw [e]
  unfold cntT allT
  rw [cnt_r1]
  refine S_ext _ fun i hi => ?_
  rw [Nat.zero_add, S_drop (t2 (zs.getD i 0)) (t1 (zs.getD i 0)) rfl (fun _ _ => rfl) zs (zs.length - (i + 1)) (i + 1) rfl]
  refine S_ext _ fun d hd => ?_
  rw [S_drop (t1 (zs.getD i 0) (zs.getD (i + 1 + d) 0)) (fun z _ => if triB (zs.getD i 0) (zs.getD (i + 1 + d) 0) z then 1 else 0) rfl (fun _ _ => rfl) zs (zs.length - (i + 1 + d + 1)) (i + 1 + d + 1) rfl]
  rfl
theorem t1_sub (x y : Int) {l l' : List Int} (h : l.Sublist l') : t1 x y l ≤ t1 x y l' := by
  induction h with
  | slnil => exact Nat.le_refl _
  | cons a _ ih => rw [t1]; omega
  | cons_cons a _ ih => rw [t1, t1]; omega
theorem t2_sub (x : Int) {l l' : List Int} (h : l.Sublist l') : t2 x l ≤ t2 x l' := by
  induction h with
  | slnil => exact Nat.le_refl _
  | cons a _ ih => rw [t2]; omega
  | cons_cons a hs ih => rw [t2, t2]; have := t1_sub x a hs; omega
theorem t3_sub {l l' : List Int} (h : l.Sublist l') : t3 l ≤ t3 l' := by
  induction h with
  | slnil => exact Nat.le_refl _
  | cons a _ ih => rw [t3]; omega
  | cons_cons a hs ih => rw [t3, t3]; have := t2_sub a hs; omega
def c2 : Nat → Nat
  | 0 => 0
  | n + 1 => n + c2 n
def c3 : Nat → Nat
  | 0 => 0
  | n + 1 => c2 n + c3 n
theorem t1_le (x y : Int) : ∀ l : List Int, t1 x y l ≤ l.length
  | [] => Nat.le_refl _
  | z :: l => by rw [t1, List.length_cons]; have := t1_le x y l; split <;> omega
theorem t2_le (x : Int) : ∀ l : List Int, t2 x l ≤ c2 l.length
  | [] => Nat.le_refl _
  | y :: l => by rw [t2, List.length_cons, c2]; have := t1_le x y l; have := t2_le x l; omega
theorem t3_le : ∀ l : List Int, t3 l ≤ c3 l.length
  | [] => Nat.le_refl _
  | x :: l => by rw [t3, List.length_cons, c3]; have := t2_le x l; have := t3_le l; omega
theorem cnt_le (zs : List Int) : cntT zs ≤ c3 zs.length := by rw [cnt_t3]; exact t3_le zs
theorem cnt_sub {l l' : List Int} (h : l.Sublist l') : cntT l ≤ cntT l' := by rw [cnt_t3, cnt_t3]; exact t3_sub h
theorem sub_ins (P : List Int) (x : Int) : P.Sublist (ins P x) := by
  unfold ins
  have h := List.Sublist.append (List.Sublist.refl (P.take (pos P x))) (List.sublist_cons_self x (P.drop (pos P x)))
  rw [List.take_append_drop] at h
  exact h

theorem asc_tail {x : Int} {l : List Int} (h : Asc (x :: l)) : Asc l := fun j hj => by
  have := h (j + 1) (by simp; omega)
  simpa using this
theorem asc_head {x : Int} : ∀ {l : List Int}, Asc (x :: l) → ∀ y ∈ l, x ≤ y
  | [], _, _, hy => by simp at hy
  | z :: l, h, y, hy => by
    have h0 : x ≤ z := by simpa using h 0 (by simp)
    rcases List.mem_cons.1 hy with rfl | hy
    · exact h0
    · exact Int.le_trans h0 (asc_head (asc_tail h) y hy)
theorem asc_perm : ∀ {l l' : List Int}, Asc l → Asc l' → l.Perm l' → l = l'
  | [], l', _, _, h => (List.nil_perm.1 h).symm
  | x :: l, [], _, _, h => by simp at h
  | x :: l, y :: l', h1, h2, h => by
    have e : x = y := by
      have a1 : x ∈ y :: l' := h.mem_iff.1 (by simp)
      have a2 : y ∈ x :: l := h.mem_iff.2 (by simp)
      rcases List.mem_cons.1 a1 with e | a1
      · exact e
      · rcases List.mem_cons.1 a2 with e | a2
        · exact e.symm
        · have := asc_head h2 x a1; have := asc_head h1 y a2; omega
    subst e
    rw [asc_perm (asc_tail h1) (asc_tail h2) (List.Perm.cons_inv h)]
theorem isort_perm {l l' : List Int} (h : Asc l') (hp : l.Perm l') : isort l = l' := asc_perm (asc_isort l) h ((perm_isort l).trans hp)
/-- Sums are the same in any order. -/
theorem sumTo_eq (xs : List Int) : ∀ k, k ≤ xs.length → sumTo xs k = (xs.take k).sum
  | 0, _ => by simp [sumTo]
  | k + 1, h => by
    have e : xs.take (k + 1) = xs.take k ++ [xs.getD k 0] := by
      rw [List.take_succ_eq_append_getElem (by omega)]; simp [List.getD_eq_getElem?_getD, show k < xs.length by omega]
    rw [sumTo, sumTo_eq xs k (by omega), e, List.sum_append]; simp
theorem sumL_eq (xs : List Int) : sumL xs = xs.sum := by
  unfold sumL; rw [sumTo_eq xs _ (Nat.le_refl _), List.take_length]
theorem perm_sum {l l' : List Int} (h : l.Perm l') : l.sum = l'.sum := by
  induction h with
  | nil => rfl
  | cons x _ ih => simp [ih]
  | swap x y l => simp only [List.sum_cons]; omega
  | trans _ _ ih1 ih2 => exact ih1.trans ih2
theorem sumL_perm {l l' : List Int} (h : l.Perm l') : sumL l = sumL l' := by rw [sumL_eq, sumL_eq, perm_sum h]
theorem sumL_app (l : List Int) (x : Int) : sumL (l ++ [x]) = sumL l + x := by rw [sumL_eq, sumL_eq, List.sum_append]; simp
/-- A list in order: places further on hold no less. -/
theorem asc_le {xs : List Int} (h : Asc xs) : ∀ {i j : Nat}, i ≤ j → j < xs.length → xs.getD i 0 ≤ xs.getD j 0 := by
  intro i j hij hj
  induction j with
  | zero => obtain rfl : i = 0 := by omega
            exact Int.le_refl _
  | succ j ih =>
    by_cases e : i = j + 1
    · subst e; exact Int.le_refl _
    · exact Int.le_trans (ih (by omega) (by omega)) (h j hj)
end Go.Proofs.Ytiadnbdefcimiaa
