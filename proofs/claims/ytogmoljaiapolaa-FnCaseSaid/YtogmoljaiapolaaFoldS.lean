/- Contracts of the model's functions of chapter 5: rulers, one folding. -/
import Derived.Test.YtogmoljaiapolaaFoldQ
import Derived.Test.YtogmoljaiapolaaS1a
import Derived.Laws.BitsLemmas
namespace Go.Proofs.Ytogmoljaiapolaa
open Go.RowKit

/-- A ruler. -/
def Ruler (xs : List Int) : Prop := 1 ≤ xs.length ∧ xs.length ≤ 9 ∧ ∀ j, j < xs.length → 1 ≤ xs.getD j 0 ∧ xs.getD j 0 ≤ 60
open Classical in
noncomputable def rulB (xs : List Int) : Bool := decide (Ruler xs)
theorem rulB_true {xs : List Int} (h : rulB xs = true) : Ruler xs := by simpa [rulB] using h
theorem rulB_mk {xs : List Int} (h : Ruler xs) : rulB xs = true := by simpa [rulB] using h
theorem rulB_not {xs : List Int} (h : ¬ Ruler xs) : rulB xs = false := by simpa [rulB] using h
theorem not_ruler_at {xs : List Int} {k : Nat} (hk : k < xs.length) (h : inB (xs.getD k 0) 1 60 = false) : rulB xs = false :=
  rulB_not fun hb => by
    have := hb.2.2 k hk
    rw [inB_mk this.1 this.2] at h
    cases h
theorem ruler_iff {xs : List Int} (h : ∀ j, j < xs.length → 1 ≤ xs.getD j 0 ∧ xs.getD j 0 ≤ 60) : rulB xs = inB (xs.length : Int) 1 9 := by
  by_cases hb : Ruler xs
  · rw [rulB_mk hb, inB_mk]
    · have := hb.1; omega
    · have := hb.2.1; omega
  · rw [rulB_not hb]
    unfold Ruler at hb
    unfold inB
    by_cases h1 : 1 ≤ xs.length
    · by_cases h2 : xs.length ≤ 9
      · exact absurd ⟨h1, h2, h⟩ hb
      · simp; omega
    · simp; omega
theorem ruler_len1 {xs : List Int} (h : Ruler xs) : Len1 xs := fun x hx => by
  obtain ⟨j, hj, e⟩ := List.getElem_of_mem hx
  have := h.2.2 j hj
  rw [List.getD_eq_getElem?_getD, List.getElem?_eq_getElem hj] at this
  simp only [Option.getD_some, e] at this
  exact this

set_option maxHeartbeats 800000 in
theorem l5Ruler_any (A : Option Addr) (n c : Nat) (xs : List Int) (w : World) (h : Rd w A n xs) (hn : n ≤ 1048576) :
    Calls Try.prog 57 #[.slice A n c] w fun e w' => e = .returned (.bool (rulB xs)) ∧ Below w.heap.size w w' := by
  go_enter Try.func57, Try.ntmps57
  go_wp2
  go_loopw [3] (fun i wr => ∃ k : Nat, k ≤ n ∧ i = .int .i64 k ∧ (∀ j, j < k → 1 ≤ xs.getD j 0 ∧ xs.getD j 0 ≤ 60) ∧ Below w.heap.size w wr) (fun i _ => n - (intOf i).toNat)
  case atStart => exact ⟨0, Nat.zero_le _, rfl, fun j hj => absurd hj (by omega), Below.refl _ _⟩
  case round =>
    obtain ⟨k, hk, rfl, hup, hb⟩ := hrel
    have HU := Lib.hid hup
    have HL := Lib.hid h.1
    clear hup
    by_cases hlt : k < n
    · obtain ⟨b, off, rfl, hbl, hc⟩ := h.2 (by omega)
      have hcx : wr.cell? ⟨b, off + k, none⟩ = some (.int .i64 (xs.getD k 0)) := (hb.cell (p := ⟨b, off + k, none⟩) hbl).trans (hc k hlt)
      obtain ⟨x, ex⟩ : ∃ x, x = xs.getD k 0 := ⟨_, rfl⟩
      rw [← ex] at hcx
      have EX := Lib.hid ex
      clear ex hc h
      by_cases hin : inB x 1 60 = true
      · have HI := Lib.hid hin
        clear hin
        go_wp2_with (go_at_call 81; refine (l6In_any _ _ _ _).mono ?_; rintro e w' ⟨rfl, rfl⟩; rw [HI.out])
        go_roundw
        case rel => exact ⟨k + 1, by omega, by go_num, fun j hj => by
          by_cases e : j = k
          · subst e; rw [← EX.out]; exact inB_true HI.out
          · exact HU.out j (by omega), hb⟩
        case measure => simp [intOf]; omega
      · rw [Bool.not_eq_true] at hin
        have HI := Lib.hid hin
        clear hin
        go_wp2_with (go_at_call 81; refine (l6In_any _ _ _ _).mono ?_; rintro e w' ⟨rfl, rfl⟩; rw [HI.out])
        go_ret
        exact ⟨ret_b (not_ruler_at (k := k) (by rw [HL.out]; exact hlt) (by rw [← EX.out]; exact HI.out)).symm, hb⟩
    · obtain rfl : k = n := by omega
      have HE := Lib.hid (ruler_iff (xs := xs) (by rw [HL.out]; exact HU.out))
      clear h
      go_wp2_with (go_at_call 81; refine (l6In_any _ _ _ _).mono ?_; rintro e w' ⟨rfl, rfl⟩)
      go_ret
      exact ⟨ret_b (by rw [HE.out, HL.out]), hb⟩

theorem i64_and1 (n : Int) : bits .and .i64 n 1 = n % 2 := by
  have h1 : (BitVec.ofInt 64 1).toNat = 2 ^ 1 - 1 := by decide
  have key : (BitVec.ofInt 64 n &&& BitVec.ofInt 64 1).toNat = (n % ((2 ^ 64 : Nat) : Int)).toNat % 2 ^ 1 := by
    rw [BitVec.toNat_and, BitVec.toNat_ofInt, h1, Nat.and_two_pow_sub_one_eq_mod]
  show IntKind.i64.wrap ((BitVec.ofInt 64 n &&& BitVec.ofInt 64 1).toNat : Nat) = n % 2
  rw [key, IntKind.wrap_i64]
  omega
theorem bit_is (s m : Nat) : (bits .and .i64 ((s : Int) / 2 ^ m) 1 == 1) = leftB m s := by
  rw [i64_and1]
  have e : (s : Int) / 2 ^ m = ((s / 2 ^ m : Nat) : Int) := by simp
  rw [e]
  unfold leftB
  rw [Bool.eq_iff_iff, beq_iff_eq, beq_iff_eq]
  omega
theorem step_yes {xs : List Int} {s k : Nat} (h : leftB (xs.length - 1 - k) s = true) : plT xs s (k + 1) = plT xs s k - xs.getD k 0 := by
  rw [plT, stepS, if_pos h]; omega
theorem step_no {xs : List Int} {s k : Nat} (h : leftB (xs.length - 1 - k) s = false) : plT xs s (k + 1) = plT xs s k + xs.getD k 0 := by
  rw [plT, stepS, h]; rfl
theorem lo_step {xs : List Int} {s k : Nat} {p : Int} (h : plT xs s (k + 1) = p) : (if p < loT xs s k then p else loT xs s k) = loT xs s (k + 1) := by
  rw [loT, h]; split <;> omega
theorem hi_step {xs : List Int} {s k : Nat} {p : Int} (h : plT xs s (k + 1) = p) : (if hiT xs s k < p then p else hiT xs s k) = hiT xs s (k + 1) := by
  rw [hiT, h]; split <;> omega
theorem ret_iii {a b c d e f : Int} (h1 : a = b) (h2 : c = d) (h3 : e = f) : Ending.returned (.tuple #[.int .i64 a, .int .i64 c, .int .i64 e]) = .returned (.tuple #[.int .i64 b, .int .i64 d, .int .i64 f]) := by subst h1 h2 h3; rfl

set_option maxHeartbeats 800000 in
theorem l5Ends_any (A : Option Addr) (n c : Nat) (xs : List Int) (s : Nat) (w : World) (h : Rd w A n xs) (hR : Ruler xs) (_hs : s < 512) :
    Calls Try.prog 61 #[.slice A n c, .int .i64 s] w fun e w' => e = .returned (.tuple #[.int .i64 (plc xs s), .int .i64 (loP xs s), .int .i64 (hiP xs s)]) ∧ Below w.heap.size w w' := by
  have hl := h.1
  have hn := hR.2.1
  go_enter Try.func61, Try.ntmps61
  go_wp2_with fail
  go_loopw [7, 8, 9, 10] (fun a lo hi i wr => ∃ k : Nat, k ≤ n ∧ i = .int .i64 k ∧ a = .int .i64 (plT xs s k) ∧ lo = .int .i64 (loT xs s k) ∧ hi = .int .i64 (hiT xs s k) ∧ Below w.heap.size w wr) (fun _ _ _ i _ => n - (intOf i).toNat)
  case atStart => exact ⟨0, Nat.zero_le _, rfl, rfl, rfl, rfl, Below.refl _ _⟩
  case round =>
    obtain ⟨k, hk, rfl, rfl, rfl, rfl, hb⟩ := hrel
    by_cases hlt : k < n
    · obtain ⟨b, off, rfl, hbl, hc⟩ := h.2 (by omega)
      have hcx : wr.cell? ⟨b, off + k, none⟩ = some (.int .i64 (xs.getD k 0)) := (hb.cell (p := ⟨b, off + k, none⟩) hbl).trans (hc k hlt)
      obtain ⟨x, ex⟩ : ∃ x, x = xs.getD k 0 := ⟨_, rfl⟩
      rw [← ex] at hcx
      have EX := Lib.hid ex
      have hx := hR.2.2 k (by omega)
      have hbd := fold_bd (s := s) hR.2.2 k (by omega)
      rw [← EX.out] at hx
      obtain ⟨p, ep⟩ : ∃ p, p = plT xs s k := ⟨_, rfl⟩
      rw [← ep] at hbd ⊢
      have EP := Lib.hid ep
      have v2 : IntKind.i64.wrap ((n : Int) - 1) = (n : Int) - 1 := wrap_is rfl (by omega) (by omega)
      have hbit := bit_is s (n - 1 - k)
      have hmk : leftB (xs.length - 1 - k) s = leftB (n - 1 - k) s := by rw [hl]
      obtain ⟨m, em⟩ : ∃ m : Nat, m = n - 1 - k := ⟨_, rfl⟩
      rw [← em] at hbit hmk
      have e1 : (n : Int) - 1 - (k : Int) = (m : Int) := by omega
      have v3 : IntKind.i64.wrap (m : Int) = (m : Int) := wrap_is rfl (by omega) (by omega)
      have HM := Lib.hid hmk
      have v4 : IntKind.i64.wrap (p - x) = p - x := wrap_is rfl (by omega) (by omega)
      have v5 : IntKind.i64.wrap (p + x) = p + x := wrap_is rfl (by omega) (by omega)
      have hn9 : n ≤ 9 := by omega
      clear ex ep hc h hR hbd hl hn em hmk
      cases hq : leftB m s with
      | true =>
        have HS := Lib.hid (show plT xs s (k + 1) = p - x by rw [EP.out, EX.out]; exact step_yes (by rw [HM.out]; exact hq))
        rw [hq] at hbit
        clear hq
        go_wp2_with fail
        go_roundw
        case rel => exact ⟨k + 1, by omega, by go_num, by rw [HS.out], by rw [← lo_step HS.out], by rw [← hi_step HS.out], hb⟩
        case measure => simp [intOf]; omega
      | false =>
        have HS := Lib.hid (show plT xs s (k + 1) = p + x by rw [EP.out, EX.out]; exact step_no (by rw [HM.out]; exact hq))
        rw [hq] at hbit
        clear hq
        go_wp2_with fail
        go_roundw
        case rel => exact ⟨k + 1, by omega, by go_num, by rw [HS.out], by rw [← lo_step HS.out], by rw [← hi_step HS.out], hb⟩
        case measure => simp [intOf]; omega
    · obtain rfl : k = n := by omega
      have e1 := fold_all (xs := xs) (s := s)
      rw [hl] at e1
      have E1 := Lib.hid e1
      clear h hR hl hn e1
      go_wp2_with fail
      go_ret3
      exact ⟨ret_iii E1.out.1 E1.out.2.1 E1.out.2.2, hb⟩
end Go.Proofs.Ytogmoljaiapolaa
