/- Pure facts of the sort by directions: one step after the other is put in its place from behind. -/
import Derived.Test.YtkjhkcnmhakfcaaOrdP
namespace Go.Proofs.Ytkjhkcnmhakfcaa

theorem atP_app {a b : List Pt} {i : Nat} : atP (a ++ b) i = if i < a.length then atP a i else atP b (i - a.length) := by
  unfold atP
  simp only [List.getD_eq_getElem?_getD]
  by_cases h : i < a.length
  · rw [if_pos h, List.getElem?_append_left h]
  · rw [if_neg h, List.getElem?_append_right (by omega)]
def curI (l : List Pt) (i : Nat) : List Pt := srt (l.take i) ++ l.drop i
def curJ (l : List Pt) (i j : Nat) : List Pt := putP (atP l i) (srt (l.take i)) j ++ l.drop (i + 1)
theorem srt_take_len {l : List Pt} {i : Nat} (h : i ≤ l.length) : (srt (l.take i)).length = i := by rw [srt_len]; simp; omega
theorem curI_len {l : List Pt} {i : Nat} (h : i ≤ l.length) : (curI l i).length = l.length := by
  unfold curI; rw [List.length_append, srt_take_len h]; simp; omega
theorem curJ_len {l : List Pt} {i j : Nat} (h : i < l.length) : (curJ l i j).length = l.length := by
  unfold curJ; rw [List.length_append, putP_len, srt_take_len (by omega)]; simp; omega
theorem curI_zero (l : List Pt) : curI l 0 = l := by simp [curI, srt]
theorem curI_all (l : List Pt) : curI l l.length = srt l := by simp [curI]
theorem curI_one {l : List Pt} (h : 0 < l.length) : curI l 1 = l := by
  match l, h with
  | a :: t, _ => simp [curI, srt, insP, putP, kP]
theorem curJ_start {l : List Pt} {i : Nat} (h : i < l.length) : curJ l i i = curI l i := by
  unfold curJ curI putP
  have hl := srt_take_len (l := l) (i := i) (by omega)
  rw [List.take_of_length_le (by omega), List.drop_eq_nil_of_le (by omega), List.append_assoc, List.drop_eq_getElem_cons h, atP_lt h]
  rfl
theorem curJ_done {l : List Pt} {i j : Nat} (h : i < l.length) (hk : kP (atP l i) (srt (l.take i)) i = j) : curJ l i j = curI l (i + 1) := by
  unfold curJ curI
  rw [List.take_succ_eq_append_getElem h, srt_snoc, ← atP_lt h]
  unfold insP
  rw [srt_take_len (by omega), hk]
theorem curJ_at {l : List Pt} {i j : Nat} (h : i < l.length) (hj : j ≤ i) : atP (curJ l i j) j = atP l i := by
  unfold curJ
  have hl := srt_take_len (l := l) (i := i) (by omega)
  rw [atP_app, putP_len, if_pos (by omega), putP_at (by omega), if_neg (by omega), if_pos rfl]
theorem curJ_lo {l : List Pt} {i j k : Nat} (h : i < l.length) (hj : j ≤ i) (hk : k < j) : atP (curJ l i j) k = atP (srt (l.take i)) k := by
  unfold curJ
  have hl := srt_take_len (l := l) (i := i) (by omega)
  rw [atP_app, putP_len, if_pos (by omega), putP_at (by omega), if_pos hk]
theorem curJ_swap {l : List Pt} {i k : Nat} (h : i < l.length) (hk : k + 1 ≤ i) : ((curJ l i (k + 1)).set (k + 1) (atP (srt (l.take i)) k)).set k (atP l i) = curJ l i k := by
  have hl := srt_take_len (l := l) (i := i) (by omega)
  have e1 := curJ_len (j := k + 1) h
  have sa : ∀ {l : List Pt} {i j : Nat} {q : Pt}, i < l.length → atP (l.set i q) j = if j = i then q else atP l j := fun {l i j q} h => by
    by_cases e : j = i
    · subst e; simp [atP, List.getD_eq_getElem?_getD, h]
    · simp [atP, List.getD_eq_getElem?_getD, e, Ne.symm e]
  have la : ∀ {a b : List Pt}, a.length = b.length → (∀ i, i < a.length → atP a i = atP b i) → a = b := fun {a b} hl h => by
    apply List.ext_getElem hl
    intro i h1 h2
    have := h i h1
    rwa [atP_lt h1, atP_lt h2] at this
  refine la (by rw [List.length_set, List.length_set, e1, curJ_len h]) fun m hm => ?_
  rw [List.length_set, List.length_set, e1] at hm
  rw [sa (by rw [List.length_set, e1]; omega), sa (by rw [e1]; omega)]
  by_cases q1 : m = k
  · subst q1; rw [if_pos rfl, curJ_at h (by omega)]
  · rw [if_neg q1]
    by_cases q2 : m = k + 1
    · subst q2
      rw [if_pos rfl]
      unfold curJ
      rw [atP_app, putP_len, if_pos (by omega), putP_at (by omega), if_neg (by omega), if_neg (by omega)]
      rfl
    · rw [if_neg q2]
      unfold curJ
      rw [atP_app, atP_app, putP_len, putP_len]
      by_cases q3 : m < (srt (l.take i)).length + 1
      · rw [if_pos q3, if_pos q3, putP_at (by omega), putP_at (by omega)]
        by_cases q4 : m < k
        · rw [if_pos (by omega), if_pos q4]
        · rw [if_neg (by omega), if_neg q2, if_neg q4, if_neg q1]
      · rw [if_neg q3, if_neg q3]
theorem srt_mem {l : List Pt} {i k : Nat} (h : i ≤ l.length) (hk : k < i) : atP (srt (l.take i)) k ∈ l := by
  have hl := srt_take_len h
  rw [atP_lt (by omega)]
  exact List.mem_of_mem_take ((srt_perm (l.take i)).mem_iff.1 (List.getElem_mem (by omega)))
end Go.Proofs.Ytkjhkcnmhakfcaa
