/- The greatest number of sticks of bundles without a triangle, all tried, and that the sums of the last two have as many. Nothing of the program. -/
import Derived.Test.YtaffdppmpfgghaaCnt
import Derived.Test.YtaffdppmpfgghaaLong
namespace Go.Proofs.Ytaffdppmpfgghaa
/-- The best of what goes on from xs with the first c lengths from least on, g told of each. -/
def bestOf (g : Int → Int) (xs : List Int) (least : Int) (c : Nat) : Int :=
  (List.range c).foldl (fun (m : Int) (k : Nat) => if cntT (xs ++ [least + k]) = 0 then max m (g (least + k)) else m) xs.length
def lon : Nat → List Int → Int → Int → Int
  | 0, xs, _, _ => xs.length
  | f + 1, xs, least, n => bestOf (fun x => lon f (xs ++ [x]) x n) xs least (n + 1 - least).toNat
theorem bestOf_zero (g : Int → Int) (xs : List Int) (least : Int) : bestOf g xs least 0 = xs.length := rfl
theorem bestOf_no {g : Int → Int} {xs : List Int} {least : Int} {c : Nat} (h : ¬ cntT (xs ++ [least + c]) = 0) : bestOf g xs least (c + 1) = bestOf g xs least c := by
  unfold bestOf; rw [List.range_succ, List.foldl_append]; simp only [List.foldl_cons, List.foldl_nil]; rw [if_neg h]
theorem bestOf_yes {g : Int → Int} {xs : List Int} {least : Int} {c : Nat} (h : cntT (xs ++ [least + c]) = 0) : bestOf g xs least (c + 1) = max (bestOf g xs least c) (g (least + c)) := by
  unfold bestOf; rw [List.range_succ, List.foldl_append]; simp only [List.foldl_cons, List.foldl_nil]; rw [if_pos h]
theorem bestOf_bd {g : Int → Int} {xs : List Int} {least : Int} (hg : ∀ x, 0 ≤ g x ∧ g x ≤ 9) (hx : xs.length ≤ 9) : ∀ c, 0 ≤ bestOf g xs least c ∧ bestOf g xs least c ≤ 9
  | 0 => by rw [bestOf_zero]; omega
  | c + 1 => by
    have h1 := bestOf_bd (least := least) hg hx c
    by_cases h : cntT (xs ++ [least + c]) = 0
    · rw [bestOf_yes h]; have := hg (least + c); omega
    · rw [bestOf_no h]; exact h1
theorem lon_bd : ∀ (f : Nat) (xs : List Int) (least n : Int), xs.length + f = 9 → 0 ≤ lon f xs least n ∧ lon f xs least n ≤ 9
  | 0, xs, least, n, h => by unfold lon; omega
  | f + 1, xs, least, n, h => by
    rw [lon]
    by_cases hf : f + 1 ≤ 9
    · unfold bestOf
      suffices hs : ∀ (l : List Nat) (m : Int), 0 ≤ m → m ≤ 9 → 0 ≤ l.foldl (fun (m : Int) (k : Nat) => if cntT (xs ++ [least + k]) = 0 then max m (lon f (xs ++ [least + k]) (least + k) n) else m) m ∧ l.foldl (fun (m : Int) (k : Nat) => if cntT (xs ++ [least + k]) = 0 then max m (lon f (xs ++ [least + k]) (least + k) n) else m) m ≤ 9 by
        exact hs _ _ (by omega) (by omega)
      intro l
      induction l with
      | nil => intro m h1 h2; exact ⟨h1, h2⟩
      | cons k l ih =>
        intro m h1 h2
        simp only [List.foldl_cons]
        have h3 := lon_bd f (xs ++ [least + k]) (least + k) n (by simp; omega)
        split
        · exact ih _ (by omega) (by omega)
        · exact ih _ h1 h2
    · omega
theorem lon_long (n : Int) (h : inB n 1 8 = true) : lon 9 [] 1 n = ((longM n).length : Int) := by
  have hb := inB_true h
  rcases (show n = 1 ∨ n = 2 ∨ n = 3 ∨ n = 4 ∨ n = 5 ∨ n = 6 ∨ n = 7 ∨ n = 8 by omega) with rfl | rfl | rfl | rfl | rfl | rfl | rfl | rfl <;> decide +kernel
end Go.Proofs.Ytaffdppmpfgghaa
