/- The lowest form of three numbers, and crosswise products. Nothing of the program. -/
import Derived.Test.YtcfmnjkgebopcaaCnt
namespace Go.Proofs.Ytcfmnjkgebopcaa
def g3 (a b c : Nat) : Nat := Nat.gcd (Nat.gcd a b) c
theorem g3_a (a b c : Nat) : g3 a b c ∣ a := Nat.dvd_trans (Nat.gcd_dvd_left _ _) (Nat.gcd_dvd_left _ _)
theorem g3_b (a b c : Nat) : g3 a b c ∣ b := Nat.dvd_trans (Nat.gcd_dvd_left _ _) (Nat.gcd_dvd_right _ _)
theorem g3_c (a b c : Nat) : g3 a b c ∣ c := Nat.gcd_dvd_right _ _
theorem dvd_g3 {d a b c : Nat} (h1 : d ∣ a) (h2 : d ∣ b) (h3 : d ∣ c) : d ∣ g3 a b c := Nat.dvd_gcd (Nat.dvd_gcd h1 h2) h3
theorem g3_pos {a b c : Nat} (h : 0 < a) : 0 < g3 a b c := Nat.pos_of_dvd_of_pos (g3_a a b c) h
theorem g3_is {a b c k : Nat} (ha : 0 < a) (h1 : k ∣ a) (h2 : k ∣ b) (h3 : k ∣ c) (hk : ∀ e, k < e → e ≤ a → ¬ (e ∣ a ∧ e ∣ b ∧ e ∣ c)) : g3 a b c = k := by
  have hd := dvd_g3 h1 h2 h3
  have hle := Nat.le_of_dvd (g3_pos ha) hd
  rcases Nat.lt_or_ge k (g3 a b c) with h | h
  · exact absurd ⟨g3_a a b c, g3_b a b c, g3_c a b c⟩ (hk _ h (Nat.le_of_dvd ha (g3_a a b c)))
  · omega
/-- Crosswise alike just if the lowest forms are one. -/
theorem low_cross {a b c x y z : Nat} (ha : 0 < a) (hx : 0 < x) :
    (a * y = b * x ∧ a * z = c * x) ↔ (a / g3 a b c = x / g3 x y z ∧ b / g3 a b c = y / g3 x y z ∧ c / g3 a b c = z / g3 x y z) := by
  have gp := g3_pos (b := b) (c := c) ha
  have hp := g3_pos (b := y) (c := z) hx
  obtain ⟨p, ep⟩ := g3_a a b c
  obtain ⟨q, eq⟩ := g3_b a b c
  obtain ⟨r, er⟩ := g3_c a b c
  obtain ⟨p', ep'⟩ := g3_a x y z
  obtain ⟨q', eq'⟩ := g3_b x y z
  obtain ⟨r', er'⟩ := g3_c x y z
  have dp : a / g3 a b c = p := by rw [Nat.div_eq_of_eq_mul_right gp ep]
  have dq : b / g3 a b c = q := by rw [Nat.div_eq_of_eq_mul_right gp eq]
  have dr : c / g3 a b c = r := by rw [Nat.div_eq_of_eq_mul_right gp er]
  have dp' : x / g3 x y z = p' := by rw [Nat.div_eq_of_eq_mul_right hp ep']
  have dq' : y / g3 x y z = q' := by rw [Nat.div_eq_of_eq_mul_right hp eq']
  have dr' : z / g3 x y z = r' := by rw [Nat.div_eq_of_eq_mul_right hp er']
  rw [dp, dq, dr, dp', dq', dr']
  generalize hg : g3 a b c = g at *
  generalize hh : g3 x y z = h at *
  have pp : 0 < p := Nat.pos_of_ne_zero fun h0 => by rw [h0, Nat.mul_zero] at ep; omega
  have pp' : 0 < p' := Nat.pos_of_ne_zero fun h0 => by rw [h0, Nat.mul_zero] at ep'; omega
  have cop : ∀ d, d ∣ p → d ∣ q → d ∣ r → d = 1 := fun d h1 h2 h3 => by
    have h4 : g * d ∣ g3 a b c := dvd_g3 (by rw [ep]; exact Nat.mul_dvd_mul_left _ h1) (by rw [eq]; exact Nat.mul_dvd_mul_left _ h2) (by rw [er]; exact Nat.mul_dvd_mul_left _ h3)
    rw [hg] at h4
    have h5 := Nat.le_of_dvd gp h4
    have h6 : 0 < d := Nat.pos_of_dvd_of_pos h1 pp
    rcases Nat.lt_or_ge 1 d with h7 | h7
    · have : g * 2 ≤ g * d := Nat.mul_le_mul_left _ h7; omega
    · omega
  have cop' : ∀ d, d ∣ p' → d ∣ q' → d ∣ r' → d = 1 := fun d h1 h2 h3 => by
    have h4 : h * d ∣ g3 x y z := dvd_g3 (by rw [ep']; exact Nat.mul_dvd_mul_left _ h1) (by rw [eq']; exact Nat.mul_dvd_mul_left _ h2) (by rw [er']; exact Nat.mul_dvd_mul_left _ h3)
    rw [hh] at h4
    have h5 := Nat.le_of_dvd hp h4
    have h6 : 0 < d := Nat.pos_of_dvd_of_pos h1 pp'
    rcases Nat.lt_or_ge 1 d with h7 | h7
    · have : h * 2 ≤ h * d := Nat.mul_le_mul_left _ h7; omega
    · omega
  have gh : 0 < g * h := Nat.mul_pos gp hp
  constructor
  · rintro ⟨h1, h2⟩
    have e1 : p * q' = q * p' := by
      refine Nat.eq_of_mul_eq_mul_left gh ?_
      calc g * h * (p * q') = (g * p) * (h * q') := by ac_rfl
        _ = (g * q) * (h * p') := by rw [← ep, ← eq', ← eq, ← ep']; exact h1
        _ = g * h * (q * p') := by ac_rfl
    have e2 : p * r' = r * p' := by
      refine Nat.eq_of_mul_eq_mul_left gh ?_
      calc g * h * (p * r') = (g * p) * (h * r') := by ac_rfl
        _ = (g * r) * (h * p') := by rw [← ep, ← er', ← er, ← ep']; exact h2
        _ = g * h * (r * p') := by ac_rfl
    -- p divides p', and p' divides p
    have d1 : p ∣ p' := by
      have k1 : p ∣ Nat.gcd (Nat.gcd (p' * p) (p' * q)) (p' * r) := Nat.dvd_gcd (Nat.dvd_gcd (Nat.dvd_mul_left _ _) ⟨q', by rw [Nat.mul_comm p' q, ← e1]⟩) ⟨r', by rw [Nat.mul_comm p' r, ← e2]⟩
      rw [Nat.gcd_mul_left, Nat.gcd_mul_left] at k1
      have k2 : Nat.gcd (Nat.gcd p q) r = 1 := cop _ (g3_a p q r) (g3_b p q r) (g3_c p q r)
      rwa [k2, Nat.mul_one] at k1
    have d2 : p' ∣ p := by
      have k1 : p' ∣ Nat.gcd (Nat.gcd (p * p') (p * q')) (p * r') := Nat.dvd_gcd (Nat.dvd_gcd (Nat.dvd_mul_left _ _) ⟨q, by rw [e1, Nat.mul_comm]⟩) ⟨r, by rw [e2, Nat.mul_comm]⟩
      rw [Nat.gcd_mul_left, Nat.gcd_mul_left] at k1
      have k2 : Nat.gcd (Nat.gcd p' q') r' = 1 := cop' _ (g3_a p' q' r') (g3_b p' q' r') (g3_c p' q' r')
      rwa [k2, Nat.mul_one] at k1
    have e3 : p = p' := Nat.dvd_antisymm d1 d2
    subst e3
    refine ⟨rfl, ?_, ?_⟩
    · rw [Nat.mul_comm q p] at e1; exact (Nat.eq_of_mul_eq_mul_left pp e1).symm
    · rw [Nat.mul_comm r p] at e2; exact (Nat.eq_of_mul_eq_mul_left pp e2).symm
  · rintro ⟨rfl, rfl, rfl⟩
    rw [ep, eq, er, ep', eq', er']
    exact ⟨by ac_rfl, by ac_rfl⟩
end Go.Proofs.Ytcfmnjkgebopcaa
