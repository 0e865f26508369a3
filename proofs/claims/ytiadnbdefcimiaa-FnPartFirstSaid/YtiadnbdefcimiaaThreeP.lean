/- Threes of a list, one behind the other, and their number by sums. Nothing of the program. -/
import Derived.Test.YtiadnbdefcimiaaPure1
namespace Go.Proofs.Ytiadnbdefcimiaa

abbrev T3 := Int × Int × Int
def r3 (zs : List Int) (i j : Nat) : Nat → List T3
  | 0 => []
  | c + 1 => r3 zs i j c ++ [(zs.getD i 0, zs.getD j 0, zs.getD (j + 1 + c) 0)]
def r2 (zs : List Int) (n i : Nat) : Nat → List T3
  | 0 => []
  | c + 1 => r2 zs n i c ++ r3 zs i (i + 1 + c) (n - (i + 1 + c + 1))
def r1 (zs : List Int) (n : Nat) : Nat → List T3
  | 0 => []
  | i + 1 => r1 zs n i ++ r2 zs n i (n - (i + 1))
def allT (zs : List Int) : List T3 := r1 zs zs.length zs.length
def Memb (zs : List Int) (t : T3) : Prop := ∃ i j k, i < j ∧ j < k ∧ k < zs.length ∧ t = (zs.getD i 0, zs.getD j 0, zs.getD k 0)
def triT (t : T3) : Bool := triB t.1 t.2.1 t.2.2
def cntL (l : List T3) : Nat := l.countP triT
def cntT (zs : List Int) : Nat := cntL (allT zs)

theorem r3_mem {zs : List Int} {i j : Nat} (hij : i < j) {t : T3} : ∀ c, j + 1 + c ≤ zs.length → t ∈ r3 zs i j c → Memb zs t
  | 0, _, h => by simp [r3] at h
  | c + 1, hc, h => by
    rw [r3, List.mem_append] at h
    rcases h with h | h
    · exact r3_mem hij c (by omega) h
    · simp at h; exact ⟨i, j, j + 1 + c, hij, by omega, by omega, h⟩
theorem r2_mem {zs : List Int} {i : Nat} {t : T3} : ∀ c, i + 1 + c ≤ zs.length → t ∈ r2 zs zs.length i c → Memb zs t
  | 0, _, h => by simp [r2] at h
  | c + 1, hc, h => by
    rw [r2, List.mem_append] at h
    rcases h with h | h
    · exact r2_mem c (by omega) h
    · exact r3_mem (by omega) _ (by omega) h
theorem r1_mem {zs : List Int} {t : T3} : ∀ i, i ≤ zs.length → t ∈ r1 zs zs.length i → Memb zs t
  | 0, _, h => by simp [r1] at h
  | i + 1, hi, h => by
    rw [r1, List.mem_append] at h
    rcases h with h | h
    · exact r1_mem i (by omega) h
    · exact r2_mem _ (by omega) h
theorem r3_has {zs : List Int} {i j k : Nat} : ∀ c, j < k → k < j + 1 + c → (zs.getD i 0, zs.getD j 0, zs.getD k 0) ∈ r3 zs i j c
  | 0, h1, h2 => by omega
  | c + 1, h1, h2 => by
    rw [r3, List.mem_append]
    by_cases e : k = j + 1 + c
    · subst e; exact .inr (by simp)
    · exact .inl (r3_has c h1 (by omega))
theorem r2_has {zs : List Int} {n i j k : Nat} : ∀ c, i < j → j < i + 1 + c → j < k → k < n → (zs.getD i 0, zs.getD j 0, zs.getD k 0) ∈ r2 zs n i c
  | 0, h1, h2, _, _ => by omega
  | c + 1, h1, h2, h3, h4 => by
    rw [r2, List.mem_append]
    by_cases e : j = i + 1 + c
    · subst e; exact .inr (r3_has _ h3 (by omega))
    · exact .inl (r2_has c h1 (by omega) h3 h4)
theorem r1_has {zs : List Int} {n i j k : Nat} : ∀ m, i < m → i < j → j < k → k < n → (zs.getD i 0, zs.getD j 0, zs.getD k 0) ∈ r1 zs n m
  | 0, h, _, _, _ => by omega
  | m + 1, h, h1, h2, h3 => by
    rw [r1, List.mem_append]
    by_cases e : i = m
    · subst e; exact .inr (r2_has _ h1 (by omega) h2 h3)
    · exact .inl (r1_has m (by omega) h1 h2 h3)
theorem memb_iff {zs : List Int} {t : T3} : Memb zs t ↔ t ∈ allT zs := by
  constructor
  · rintro ⟨i, j, k, h1, h2, h3, rfl⟩; exact r1_has _ (by omega) h1 h2 h3
  · exact r1_mem _ (Nat.le_refl _)

/-! sums -/
def S (n : Nat) (f : Nat → Nat) : Nat := match n with
  | 0 => 0
  | n + 1 => S n f + f n
theorem S_ext {f g : Nat → Nat} : ∀ n, (∀ i, i < n → f i = g i) → S n f = S n g
  | 0, _ => rfl
  | n + 1, h => by rw [S, S, S_ext n (fun i hi => h i (by omega)), h n (by omega)]
theorem S_add (f g : Nat → Nat) : ∀ n, S n (fun i => f i + g i) = S n f + S n g
  | 0 => rfl
  | n + 1 => by rw [S, S, S, S_add f g n]; omega
theorem S_zero : ∀ n, S n (fun _ => 0) = 0
  | 0 => rfl
  | n + 1 => by rw [S, S_zero n]
theorem S_swap (f : Nat → Nat → Nat) (m : Nat) : ∀ n, S n (fun i => S m (fun j => f i j)) = S m (fun j => S n (fun i => f i j))
  | 0 => by simp only [S]; exact (S_zero m).symm
  | n + 1 => by
    rw [S, S_swap f m n, ← S_add]
    exact S_ext m (fun j _ => by rw [S])
theorem S_lt (f : Nat → Nat) (a : Nat) : ∀ n, a ≤ n → S n (fun i => if i < a then f i else 0) = S a f
  | 0, h => by obtain rfl : a = 0 := by omega
               rfl
  | n + 1, h => by
    by_cases e : a = n + 1
    · subst e; exact S_ext _ (fun i hi => by rw [if_pos hi])
    · rw [S, S_lt f a n (by omega), if_neg (by omega)]; rfl
theorem S_from (f : Nat → Nat) (a : Nat) : ∀ c, S (a + c) (fun i => if a ≤ i then f i else 0) = S c (fun d => f (a + d))
  | 0 => by
    rw [Nat.add_zero]
    exact (S_ext a (fun i hi => by rw [if_neg (by omega)])).trans (S_zero a)
  | c + 1 => by rw [← Nat.add_assoc, S, S_from f a c, if_pos (by omega), S]
theorem cntL_app (a b : List T3) : cntL (a ++ b) = cntL a + cntL b := by simp [cntL, List.countP_append]
def one (zs : List Int) (i j k : Nat) : Nat := if triB (zs.getD i 0) (zs.getD j 0) (zs.getD k 0) then 1 else 0
theorem cnt_one (zs : List Int) (i j k : Nat) : cntL [(zs.getD i 0, zs.getD j 0, zs.getD k 0)] = one zs i j k := by
  unfold cntL one
  cases h : triB (zs.getD i 0) (zs.getD j 0) (zs.getD k 0) with
  | true => rw [if_pos rfl]; simp only [List.countP_cons, List.countP_nil, triT, h, if_true]
  | false => rw [if_neg (by simp)]; simp only [List.countP_cons, List.countP_nil, triT, h]; rfl
theorem cnt_r3 (zs : List Int) (i j : Nat) : ∀ c, cntL (r3 zs i j c) = S c (fun d => one zs i j (j + 1 + d))
  | 0 => rfl
  | c + 1 => by rw [r3, cntL_app, cnt_r3 zs i j c, S, cnt_one]
theorem cnt_r2 (zs : List Int) (n i : Nat) : ∀ c, cntL (r2 zs n i c) = S c (fun d => S (n - (i + 1 + d + 1)) (fun e => one zs i (i + 1 + d) (i + 1 + d + 1 + e)))
  | 0 => rfl
  | c + 1 => by rw [r2, cntL_app, cnt_r2 zs n i c, cnt_r3, S]
theorem cnt_r1 (zs : List Int) (n : Nat) : ∀ m, cntL (r1 zs n m) = S m (fun i => S (n - (i + 1)) (fun d => S (n - (i + 1 + d + 1)) (fun e => one zs i (i + 1 + d) (i + 1 + d + 1 + e))))
  | 0 => rfl
  | m + 1 => by rw [r1, cntL_app, cnt_r1 zs n m, cnt_r2, S]
/-- The number of threes, the places from the greatest one on. -/
def m3 (zs : List Int) (i j : Nat) (c : Nat) : Nat := S c (fun k => one zs k j i)
def m2 (zs : List Int) (i : Nat) (c : Nat) : Nat := S c (fun j => m3 zs i j j)
def m1 (zs : List Int) (c : Nat) : Nat := S c (fun i => m2 zs i i)
theorem cnt_m1 (zs : List Int) : m1 zs zs.length = cntT zs := by
  generalize hn : zs.length = n
  have e1 : cntT zs = S n (fun i => S n (fun j => S n (fun k => if i < j ∧ j < k then one zs i j k else 0))) := by
    unfold cntT allT
    rw [hn, cnt_r1]
    refine S_ext n fun i hi => ?_
    have s1 := S_from (fun j => S n (fun k => if i < j ∧ j < k then one zs i j k else 0)) (i + 1) (n - (i + 1))
    rw [show i + 1 + (n - (i + 1)) = n by omega] at s1
    have s2 : S n (fun j => S n (fun k => if i < j ∧ j < k then one zs i j k else 0)) = S n (fun j => if i + 1 ≤ j then S n (fun k => if i < j ∧ j < k then one zs i j k else 0) else 0) := by
      refine S_ext n fun j _ => ?_
      by_cases h : i + 1 ≤ j
      · rw [if_pos h]
      · rw [if_neg h]; exact (S_ext n (fun k _ => by rw [if_neg (by omega)])).trans (S_zero n)
    rw [s2, s1]
    refine S_ext _ fun d hd => ?_
    have s3 := S_from (fun k => one zs i (i + 1 + d) k) (i + 1 + d + 1) (n - (i + 1 + d + 1))
    rw [show i + 1 + d + 1 + (n - (i + 1 + d + 1)) = n by omega] at s3
    rw [← s3]
    refine S_ext n fun k _ => ?_
    by_cases h : i + 1 + d + 1 ≤ k
    · rw [if_pos h, if_pos (by omega)]
    · rw [if_neg h, if_neg (by omega)]
  have e2 : m1 zs n = S n (fun i => S n (fun j => S n (fun k => if k < j ∧ j < i then one zs k j i else 0))) := by
    unfold m1 m2 m3
    refine S_ext n fun i hi => ?_
    rw [← S_lt (fun j => S j (fun k => one zs k j i)) i n (by omega)]
    refine S_ext n fun j hj => ?_
    by_cases h : j < i
    · rw [if_pos h, ← S_lt (fun k => one zs k j i) j n (by omega)]
      refine S_ext n fun k _ => ?_
      by_cases h2 : k < j
      · rw [if_pos h2, if_pos (by omega)]
      · rw [if_neg h2, if_neg (by omega)]
    · rw [if_neg h]; exact ((S_ext n (fun k _ => by rw [if_neg (by omega)])).trans (S_zero n)).symm
  rw [e1, e2]
  -- swap the outer and the inner sum
  rw [S_swap (fun i j => S n (fun k => if k < j ∧ j < i then one zs k j i else 0)) n n]
  have e3 : ∀ j, S n (fun i => S n (fun k => if k < j ∧ j < i then one zs k j i else 0)) = S n (fun k => S n (fun i => if k < j ∧ j < i then one zs k j i else 0)) := fun j => S_swap _ n n
  rw [S_ext n (fun j _ => e3 j), S_swap (fun j k => S n (fun i => if k < j ∧ j < i then one zs k j i else 0)) n n]
theorem cnt_zero {zs : List Int} : cntT zs = 0 ↔ ∀ t, Memb zs t → triT t = false := by
  unfold cntT cntL
  rw [List.countP_eq_zero]
  constructor
  · intro h t ht; have := h t (memb_iff.1 ht); simpa using this
  · intro h t ht; have := h t (memb_iff.2 ht); simp [this]
end Go.Proofs.Ytiadnbdefcimiaa
