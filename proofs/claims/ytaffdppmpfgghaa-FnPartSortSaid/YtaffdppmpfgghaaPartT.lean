/- Pure facts of parting: sets with half of the sum; threes of a bundle's sticks; one stick more. Nothing of the program. -/
import Derived.Test.YtaffdppmpfgghaaPartL
import Derived.Test.YtaffdppmpfgghaaCnt
namespace Go.Proofs.Ytaffdppmpfgghaa

/-- The number of sets with a sum. -/
def setN : List Int → Int → Nat
  | [], s => if s = 0 then 1 else 0
  | x :: r, s => setN r s + setN r (s - x)
theorem setN_le : ∀ (r : List Int) (s : Int), setN r s ≤ 2 ^ r.length
  | [], s => by rw [setN]; split <;> simp
  | x :: r, s => by
    rw [setN, List.length_cons, Nat.pow_succ]
    have h1 := setN_le r s
    have h2 := setN_le r (s - x)
    omega
/-- The sum of a set. -/
def bitS (r : List Int) (t : Nat) : Int := sI r.length fun i => if t.testBit i = true then r.getD i 0 else 0
theorem sI_head (f : Nat → Int) : ∀ n, sI (n + 1) f = f 0 + sI n (fun i => f (i + 1))
  | 0 => by simp [sI]
  | n + 1 => by rw [sI, sI_head f n, sI]; omega
theorem bitS_cons (x : Int) (r : List Int) (t : Nat) : bitS (x :: r) t = (if t % 2 = 1 then x else 0) + bitS r (t / 2) := by
  unfold bitS
  rw [List.length_cons, sI_head]
  congr 1
  · rw [Nat.testBit_zero]
    by_cases h : t % 2 = 1
    · rw [if_pos h, if_pos (by simpa using h)]; rfl
    · rw [if_neg h, if_neg (by simpa using h)]
  · refine sI_ext _ fun i _ => ?_
    rw [Nat.testBit_succ]; rfl
def oneIf (p : Bool) : Nat := if p = true then 1 else 0
theorem S_two (f : Nat → Nat) : ∀ K, S (2 * K) f = S K (fun u => f (2 * u) + f (2 * u + 1))
  | 0 => rfl
  | K + 1 => by
    show S (2 * K + 1 + 1) f = _
    rw [S, S, S_two f K, S]; omega
theorem set_count : ∀ (r : List Int) (s : Int), S (2 ^ r.length) (fun t => oneIf (bitS r t == s)) = setN r s
  | [], s => by
    show 0 + oneIf ((0 : Int) == s) = _
    rw [setN]
    unfold oneIf
    by_cases h : s = 0
    · subst h; rfl
    · rw [if_neg h, if_neg]; simp; omega
  | x :: r, s => by
    rw [List.length_cons, Nat.pow_succ, Nat.mul_comm, S_two, S_add, setN, ← set_count r s, ← set_count r (s - x)]
    congr 1
    · refine S_ext _ fun u _ => ?_
      rw [bitS_cons, if_neg (by omega), show 2 * u / 2 = u by omega, Int.zero_add]
    · refine S_ext _ fun u _ => ?_
      rw [bitS_cons, if_pos (by omega), show (2 * u + 1) / 2 = u by omega]
      congr 1
      rw [Bool.eq_iff_iff, beq_iff_eq, beq_iff_eq]
      omega
/-- The number of sets with half of the sum. -/
def twoP (zs : List Int) : Nat := if zs.sum % 2 = 0 then setN (zs.drop 1) (zs.sum / 2 - zs.getD 0 0) else 0
def twoM (zs : List Int) (k : Nat) : Nat := S k fun t => oneIf (2 * bitS zs (2 * t + 1) == zs.sum)
theorem two_is {zs : List Int} (h : 1 ≤ zs.length) : twoM zs (2 ^ (zs.length - 1)) = twoP zs := by
  match zs, h with
  | x :: r, _ =>
    unfold twoM twoP
    rw [show (x :: r).length - 1 = r.length by simp, show (x :: r).drop 1 = r from rfl, show (x :: r).getD 0 0 = x from rfl]
    by_cases he : (x :: r).sum % 2 = 0
    · rw [if_pos he, ← set_count]
      refine S_ext _ fun t _ => ?_
      rw [bitS_cons, if_pos (by omega), show (2 * t + 1) / 2 = t by omega]
      congr 1
      rw [Bool.eq_iff_iff, beq_iff_eq, beq_iff_eq]
      omega
    · rw [if_neg he, S_ext _ (g := fun _ => 0), S_zero]
      intro t _
      unfold oneIf
      rw [if_neg]
      rw [beq_iff_eq]
      omega

/-! Threes of a bundle's sticks. -/
def cloQ (zs : List Int) (t : Tri) : Bool := triB (zs.getD t.1 0) (zs.getD t.2.1 0) (zs.getD t.2.2 0)
def vlT (zs : List Int) (t : Tri) : T3 := (zs.getD t.1 0, zs.getD t.2.1 0, zs.getD t.2.2 0)
theorem r3_map (zs : List Int) (i j : Nat) : ∀ c, r3 zs i j c = (q3 i j c).map (vlT zs)
  | 0 => rfl
  | c + 1 => by rw [r3, q3, List.map_append, r3_map zs i j c]; rfl
theorem r2_map (zs : List Int) (n i : Nat) : ∀ c, r2 zs n i c = (q2 n i c).map (vlT zs)
  | 0 => rfl
  | c + 1 => by rw [r2, q2, List.map_append, r2_map zs n i c, r3_map]
theorem r1_map (zs : List Int) (n : Nat) : ∀ m, r1 zs n m = (q1 n m).map (vlT zs)
  | 0 => rfl
  | m + 1 => by rw [r1, q1, List.map_append, r1_map zs n m, r2_map]
theorem triP_len (zs : List Int) : (triP (cloQ zs) zs.length).length = cntT zs := by
  unfold cntT cntL allT triP allQ
  rw [r1_map, List.countP_map, ← List.countP_eq_length_filter]
  rfl
theorem triP_nil (zs : List Int) : triP (cloQ zs) zs.length = [] ↔ cntT zs = 0 := by
  rw [← triP_len, List.length_eq_zero_iff]
theorem memb_tri {zs : List Int} {t : T3} (h : Memb zs t) (ht : triT t = true) : ∃ u ∈ triP (cloQ zs) zs.length, vlT zs u = t := by
  obtain ⟨i, j, k, h1, h2, h3, rfl⟩ := h
  exact ⟨(i, j, k), List.mem_filter.2 ⟨allQ_mem.2 ⟨h1, h2, h3⟩, ht⟩, rfl⟩
theorem sI_sum : ∀ zs : List Int, sI zs.length (fun p => zs.getD p 0) = zs.sum
  | [] => rfl
  | x :: r => by
    rw [List.length_cons, sI_head, List.sum_cons, ← sI_sum r]
    rfl
/-- One stick more in front. -/
theorem ofP_cons (l : List Int) (s : Nat) : ofP (-1 :: l) (s : Int) = (ofP l s).map (· + 1) := by
  refine eq_of_srt (ofP_srt _ _) ?_ fun p => ?_
  · rw [List.pairwise_map]
    exact (ofP_srt l s).imp (by intro a b h; omega)
  · rw [ofP_mem, List.mem_map]
    constructor
    · rintro ⟨h1, h2⟩
      match p with
      | 0 => simp at h2
      | p + 1 => exact ⟨p, ofP_mem.2 ⟨by simpa using h1, by simpa using h2⟩, rfl⟩
    · rintro ⟨q, hq, rfl⟩
      have := ofP_mem.1 hq
      exact ⟨by simpa using this.1, by simpa using this.2⟩
theorem PL.cons {zs l : List Int} {n M : Nat} (x : Int) (h : PL (cloQ zs) n l M) : PL (cloQ (x :: zs)) (n + 1) (-1 :: l) M := by
  refine ⟨by simp [h.len], fun p hp => ?_, fun q hq s hs => ?_, fun s hs => ?_⟩
  · match p with
    | 0 => simp; omega
    | p + 1 => simpa using h.rng p (by omega)
  · match q with
    | 0 => simp at hs; omega
    | q + 1 =>
      obtain ⟨p, hp, hp2⟩ := h.num q (by omega) s (by simpa using hs)
      exact ⟨p + 1, by omega, by simpa using hp2⟩
  · obtain ⟨t, ht, hq⟩ := h.thr s hs
    refine ⟨(t.1 + 1, t.2.1 + 1, t.2.2 + 1), by rw [ofP_cons, ht]; rfl, ?_⟩
    unfold cloQ at hq ⊢
    simpa using hq
theorem mst_cons (x : Int) (zs : List Int) (n : Nat) : mstP (cloQ zs) n ≤ mstP (cloQ (x :: zs)) (n + 1) := by
  obtain ⟨l, M, h, e⟩ := mstP_at (cloQ zs) n
  rw [e]
  exact mstP_ge (h.cons x)
end Go.Proofs.Ytaffdppmpfgghaa
