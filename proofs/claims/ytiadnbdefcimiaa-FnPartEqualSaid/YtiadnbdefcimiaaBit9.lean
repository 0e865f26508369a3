/- Numbers as sets: what the machine's and, or, and-not of small numbers are. Nothing of the program. -/
import Derived.Test.YtiadnbdefcimiaaPartP
import Derived.Laws.BitsLemmas
namespace Go.Proofs.Ytiadnbdefcimiaa

theorem and_i64 {a b : Nat} (ha : a < 512) (hb : b < 512) : bits .and .i64 (a : Int) (b : Int) = ((a &&& b : Nat) : Int) := by
  have h1 : (BitVec.ofInt 64 (a : Int) &&& BitVec.ofInt 64 (b : Int)).toNat = a &&& b := by
    rw [BitVec.toNat_and, BitVec.toNat_ofInt, BitVec.toNat_ofInt]
    congr 1 <;> omega
  have h2 : a &&& b ≤ a := Nat.and_le_left
  show IntKind.i64.wrap ((BitVec.ofInt 64 (a : Int) &&& BitVec.ofInt 64 (b : Int)).toNat : Nat) = _
  rw [h1, IntKind.wrap_i64]
  omega
theorem or_i64 {a b : Nat} (ha : a < 512) (hb : b < 512) : bits .or .i64 (a : Int) (b : Int) = ((a ||| b : Nat) : Int) := by
  have h1 : (BitVec.ofInt 64 (a : Int) ||| BitVec.ofInt 64 (b : Int)).toNat = a ||| b := by
    rw [BitVec.toNat_or, BitVec.toNat_ofInt, BitVec.toNat_ofInt]
    congr 1 <;> omega
  have h2 : a ||| b < 2 ^ 9 := Nat.or_lt_two_pow ha hb
  show IntKind.i64.wrap ((BitVec.ofInt 64 (a : Int) ||| BitVec.ofInt 64 (b : Int)).toNat : Nat) = _
  rw [h1, IntKind.wrap_i64]
  omega
theorem andNot_i64 {a b : Nat} (ha : a < 512) (hb : b < 512) (h : ∀ p, b.testBit p = true → a.testBit p = true) : bits .andNot .i64 (a : Int) (b : Int) = ((a ^^^ b : Nat) : Int) := by
  have h2 : a ^^^ b < 2 ^ 9 := Nat.xor_lt_two_pow ha hb
  have h1 : (BitVec.ofInt 64 (a : Int) &&& ~~~ BitVec.ofInt 64 (b : Int)) = BitVec.ofNat 64 (a ^^^ b) := by
    rw [BitVec.ofInt_natCast, BitVec.ofInt_natCast]
    ext i hi
    have := h i
    rw [← BitVec.getLsbD_eq_getElem, ← BitVec.getLsbD_eq_getElem, BitVec.getLsbD_and, BitVec.getLsbD_not, BitVec.getLsbD_ofNat, BitVec.getLsbD_ofNat, BitVec.getLsbD_ofNat, Nat.testBit_xor, decide_eq_true hi]
    cases hA : a.testBit i <;> cases hB : b.testBit i <;> simp_all
  show IntKind.i64.wrap ((BitVec.ofInt 64 (a : Int) &&& ~~~ BitVec.ofInt 64 (b : Int)).toNat : Nat) = _
  rw [h1, BitVec.toNat_ofNat, IntKind.wrap_i64]
  omega
theorem and1_i64 (n : Int) : bits .and .i64 n 1 = n % 2 := by
  have h1 : (BitVec.ofInt 64 1).toNat = 2 ^ 1 - 1 := by decide
  have key : (BitVec.ofInt 64 n &&& BitVec.ofInt 64 1).toNat = (n % ((2 ^ 64 : Nat) : Int)).toNat % 2 ^ 1 := by
    rw [BitVec.toNat_and, BitVec.toNat_ofInt, h1, Nat.and_two_pow_sub_one_eq_mod]
  show IntKind.i64.wrap ((BitVec.ofInt 64 n &&& BitVec.ofInt 64 1).toNat : Nat) = n % 2
  rw [key, IntKind.wrap_i64]
  omega
/-- A place's bit, as the model asks for it. -/
theorem bit_at (U k : Nat) : bits .and .i64 ((U : Int) / 2 ^ k) 1 = if U.testBit k = true then 1 else 0 := by
  rw [and1_i64]
  have e : (U : Int) / 2 ^ k = ((U / 2 ^ k : Nat) : Int) := by simp
  rw [e, Nat.testBit_eq_decide_div_mod_eq]
  by_cases h : U / 2 ^ k % 2 = 1
  · rw [decide_eq_true h, if_pos rfl]; omega
  · rw [decide_eq_false h, if_neg Bool.false_ne_true]; omega
theorem pow_few {i n : Nat} (h : i < n) (h9 : n ≤ 9) : 2 ^ i < 512 ∧ IntKind.i64.wrap ((2 : Int) ^ i) = ((2 ^ i : Nat) : Int) := by
  have h1 : 2 ^ i < 512 := Nat.lt_of_lt_of_le (Nat.pow_lt_pow_right (by omega) (show i < 9 by omega)) (by decide)
  refine ⟨h1, ?_⟩
  have e : (2 : Int) ^ i = ((2 ^ i : Nat) : Int) := by simp
  rw [e]
  generalize 2 ^ i = p at h1
  exact wrap_is rfl (by omega) (by omega)
theorem thr_few {t : Tri} {n : Nat} (h9 : n ≤ 9) (h1 : t.1 < n) (h2 : t.2.1 < n) (h3 : t.2.2 < n) : thrU t < 512 :=
  Nat.or_lt_two_pow (n := 9) (Nat.or_lt_two_pow (n := 9) (pow_few h1 h9).1 (pow_few h2 h9).1) (pow_few h3 h9).1
theorem fit_and {U : Nat} {t : Tri} : (U &&& thrU t = thrU t) ↔ fitU U t = true := by
  constructor
  · intro h
    have hb : ∀ p, (thrU t).testBit p = true → U.testBit p = true := fun p hp => by
      rw [← h, Nat.testBit_and] at hp
      simp only [Bool.and_eq_true] at hp
      exact hp.1
    unfold fitU
    rw [hb t.1 (by rw [thr_bit]; simp), hb t.2.1 (by rw [thr_bit]; simp), hb t.2.2 (by rw [thr_bit]; simp)]
    rfl
  · intro h
    unfold fitU at h
    simp only [Bool.and_eq_true] at h
    refine Nat.eq_of_testBit_eq fun p => ?_
    rw [Nat.testBit_and, thr_bit]
    by_cases e1 : t.1 = p
    · rw [← e1, h.1.1]; simp
    · by_cases e2 : t.2.1 = p
      · rw [← e2, h.1.2]; simp
      · by_cases e3 : t.2.2 = p
        · rw [← e3, h.2]; simp
        · simp [e1, e2, e3]
theorem fit_bits {U : Nat} {t : Tri} (h : fitU U t = true) : ∀ p, (thrU t).testBit p = true → U.testBit p = true := fun p hp => by
  rw [← fit_and.2 h, Nat.testBit_and] at hp
  simp only [Bool.and_eq_true] at hp
  exact hp.1
end Go.Proofs.Ytiadnbdefcimiaa
