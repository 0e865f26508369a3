/- Contracts for StickTryFree: the searches of the program and of the model. -/
import Derived.Test.YtaffdppmpfgghaaSMany
import Derived.Test.YtaffdppmpfgghaaLon
import Derived.Test.YtaffdppmpfgghaaWidP
import Derived.Test.YtaffdppmpfgghaaSpecSort
namespace Go.Proofs.Ytaffdppmpfgghaa
open Go.RowKit

/-- Lengths up to 8 that go on to x. -/
def Upto (xs : List Int) (x : Int) : Prop := Asc xs ∧ (∀ y ∈ xs, 1 ≤ y ∧ y ≤ x) ∧ 1 ≤ x
theorem Upto.snoc {xs : List Int} {x y : Int} (h : Upto xs x) (hy : x ≤ y) : Upto (xs ++ [y]) y :=
  ⟨asc_snoc h.1 (fun z hz => by have := h.2.1 z hz; omega), fun z hz => by
    rcases List.mem_append.1 hz with hz | hz
    · have := h.2.1 z hz; omega
    · simp at hz; subst hz; have := h.2.2; omega, by have := h.2.2; omega⟩
theorem Upto.sort {xs : List Int} {x y : Int} (h : Upto xs x) (hy : x ≤ y) : isort (xs ++ [y]) = xs ++ [y] := isort_asc (h.snoc hy).1
theorem Upto.bd {xs : List Int} {x : Int} (h : Upto xs x) (h8 : x ≤ 60) : ∀ j, j < xs.length → 1 ≤ xs.getD j 0 ∧ xs.getD j 0 ≤ 60 := fun j hj => by
  have := h.2.1 _ (getD_mem hj); omega

set_option maxHeartbeats 2000000 in
theorem mostFree_any (N : Int) (hN : N ≤ 8) : ∀ (f : Nat) (A : Option Addr) (n c : Nat) (xs : List Int) (least : Int) (w : World) (_ : Rd w A n xs) (_ : A = none → n = 0 ∧ c = 0) (_ : n + f = 9) (_ : Upto xs least) (_ : least ≤ 9),
    Calls Try.prog 102 #[.slice A n c, .int .i64 least, .int .i64 N] w fun e w' => e = .returned (.int .i64 (lon f xs least N)) ∧ Below w.heap.size w w'
  | 0, A, n, c, xs, least, w, h, hA, hf, hu, hl => by
    have HL := Lib.hid h.1
    have hd : ((n : Int) == 9) = true := by simp; omega
    go_enter Try.func102, Try.ntmps102
    go_wp2_with fail
    go_ret
    exact ⟨ret_i (by show (n : Int) = (xs.length : Int); rw [HL.out]), Below.refl _ _⟩
  | f + 1, A, n, c, xs, least, w, h, hA, hf, hu, hl => by
    have IH := Lib.hid (mostFree_any N hN f)
    have HL := Lib.hid h.1
    have HU := Lib.hid hu
    have h1 := hu.2.2
    have hd : ((n : Int) == 9) = false := by simp; omega
    clear hu
    go_enter Try.func102, Try.ntmps102
    go_wp2_with fail
    go_loopw [7, 8, 9] (fun m x _ wr => ∃ k : Nat, k ≤ (N + 1 - least).toNat ∧ x = .int .i64 (least + k) ∧ m = .int .i64 (bestOf (fun x => lon f (xs ++ [x]) x N) xs least k) ∧ Below w.heap.size w wr) (fun _ x _ _ => (N + 1 - intOf x).toNat)
    case atStart => exact ⟨0, Nat.zero_le _, by simp, by rw [bestOf_zero, HL.out], Below.refl _ _⟩
    case round =>
      obtain ⟨k, hk, rfl, rfl, hb⟩ := hrel
      by_cases hlt : least + k ≤ N
      · obtain ⟨m, hm⟩ : ∃ m, m = bestOf (fun x => lon f (xs ++ [x]) x N) xs least k := ⟨_, rfl⟩
        rw [← hm]
        have HM := Lib.hid hm
        clear hm
        have hlk : least ≤ least + k := by omega
        have HS := Lib.hid (HU.out.sort hlk)
        have HV := Lib.hid (HU.out.snoc hlk)
        have hr := h.below (Nat.le_refl _) hb
        go_wp2_with fail
        refine (with_any A n c xs _ _ hr (by omega) hA).mono ?_
        rintro e w2 ⟨A2, c2, rfl, o2, b2⟩
        rw [HS.out] at o2
        have b3 := below_then hb b2
        go_wp2_with fail
        refine (free_any A2 (n + 1) c2 _ _ o2.rd (by omega) (by omega) (HV.out.bd (by omega))).mono ?_
        rintro e w3 ⟨rfl, b4⟩
        have b5 := below_then b3 b4
        by_cases h0 : cntT (xs ++ [least + k]) = 0
        · rw [decide_eq_true h0]
          have HY := Lib.hid (bestOf_yes (g := fun x => lon f (xs ++ [x]) x N) h0)
          clear h0
          go_wp2_with fail
          refine (IH.out A2 (n + 1) c2 (xs ++ [least + k]) (least + k) _ (o2.same b4).rd (o2.nilA) (by omega) HV.out (by omega)).mono ?_
          rintro e w4 ⟨rfl, b6⟩
          have b7 := below_then b5 b6
          rw [← HM.out] at HY
          have HZ := HY.out
          obtain ⟨z, hz⟩ : ∃ z, z = lon f (xs ++ [least + k]) (least + k) N := ⟨_, rfl⟩
          rw [← hz] at HZ ⊢
          have HZ := Lib.hid HZ
          clear hz HY
          rcases (show m ≤ z ∨ z < m by omega) with hmz | hmz
          · have e1 : max m z = z := by omega
            rw [e1] at HZ
            go_wp2_with fail
            go_roundw
            case rel => first | exact ⟨k + 1, by omega, by go_num, by rw [HZ.out], b7⟩ | ((repeat apply Exists.intro); exact ⟨⟨k + 1, by omega, by go_num, by rw [HZ.out], b7⟩, rfl⟩)
            case measure => simp [intOf]; omega
          · have e1 : max m z = m := by omega
            rw [e1] at HZ
            go_wp2_with fail
            go_roundw
            case rel => first | exact ⟨k + 1, by omega, by go_num, by rw [HZ.out], b7⟩ | ((repeat apply Exists.intro); exact ⟨⟨k + 1, by omega, by go_num, by rw [HZ.out], b7⟩, rfl⟩)
            case measure => simp [intOf]; omega
        · rw [decide_eq_false h0]
          have HY := Lib.hid (bestOf_no (g := fun x => lon f (xs ++ [x]) x N) h0)
          clear h0
          go_wp2_with fail
          go_roundw
          case rel => first | exact ⟨k + 1, by omega, by go_num, by rw [HM.out, HY.out], b5⟩ | ((repeat apply Exists.intro); exact ⟨⟨k + 1, by omega, by go_num, by rw [HM.out, HY.out], b5⟩, rfl⟩)
          case measure => simp [intOf]; omega
      · obtain rfl : k = (N + 1 - least).toNat := by omega
        go_wp2_with fail
        go_ret
        exact ⟨rfl, hb⟩

/-- From which length on the model goes. -/
def fromOf (xs : List Int) : Int := if xs.length = 0 then 1 else xs.getD (xs.length - 1) 0
theorem fromOf_snoc (xs : List Int) (x : Int) : fromOf (xs ++ [x]) = x := by
  unfold fromOf
  rw [if_neg (by simp), List.length_append, List.length_singleton, Nat.add_sub_cancel, List.getD_eq_getElem?_getD, List.getElem?_append_right (Nat.le_refl _)]
  simp
set_option maxHeartbeats 4000000 in
theorem l1Longest_any (N : Int) (hN : N ≤ 8) : ∀ (f : Nat) (A : Option Addr) (n c : Nat) (xs : List Int) (w : World) (_ : Rd w A n xs) (_ : n + f = 9) (_ : Upto xs (fromOf xs)) (_ : fromOf xs ≤ 9),
    Calls Try.prog 103 #[.slice A n c, .int .i64 N] w fun e w' => e = .returned (.int .i64 (lon f xs (fromOf xs) N)) ∧ Below w.heap.size w w' := by
  intro f
  induction f with
  | zero =>
    intro A n c xs w h hf hu hl
    have HL := Lib.hid h.1
    obtain ⟨least, hle⟩ : ∃ least, least = fromOf xs := ⟨_, rfl⟩
    rw [← hle]
    have hd : decide ((n : Int) < 9) = false := by simp; omega
    have hd0 : decide ((n : Int) > 0) = true := by simp; omega
    obtain ⟨b, off, rfl, hbl, hc⟩ := h.2 (by omega)
    have hcx := hc (n - 1) (by omega)
    have e1 : ((n : Int) - 1).toNat = n - 1 := by omega
    have e2 : (0 : Int) ≤ (n : Int) - 1 := by omega
    have e3 : (n : Int) - 1 < (n : Int) := by omega
    have hfr : xs.getD (n - 1) 0 = least := by rw [hle]; unfold fromOf; rw [if_neg (by rw [h.1]; omega), h.1]
    rw [hfr] at hcx
    have HR := Lib.hid hfr
    rw [← hle] at hu hl
    have h1 := hu.2.2
    clear hc h hle hfr hu
    go_enter Try.func103, Try.ntmps103
    go_wp2_with fail
    go_loopw [5, 7, 8] (fun m x _ wr => m = .int .i64 n ∧ x = .int .i64 least ∧ Below w.heap.size w wr) (fun _ _ _ _ => 0)
    case atStart => exact ⟨rfl, rfl, Below.refl _ _⟩
    case round =>
      obtain ⟨rfl, rfl, hb⟩ := hrel
      by_cases hlt : least ≤ N
      · go_wp2_with fail
        go_ret
        exact ⟨ret_i (by show (n : Int) = (xs.length : Int); rw [HL.out]), hb⟩
      · go_wp2_with fail
        go_ret
        exact ⟨ret_i (by show (n : Int) = (xs.length : Int); rw [HL.out]), hb⟩
  | succ f ih =>
    intro A n c xs w h hf hu hl
    have IH := Lib.hid ih
    have HL := Lib.hid h.1
    obtain ⟨least, hle⟩ : ∃ least, least = fromOf xs := ⟨_, rfl⟩
    rw [← hle] at hu hl ⊢
    have HU := Lib.hid hu
    have HE := Lib.hid hle
    have h1 := hu.2.2
    have hd : decide ((n : Int) < 9) = true := by simp; omega
    have hcase : (n = 0 ∧ least = 1) ∨ 0 < n := by
      rcases Nat.eq_zero_or_pos n with h0 | h0
      · exact .inl ⟨h0, by rw [hle]; unfold fromOf; rw [if_pos (by rw [h.1]; exact h0)]⟩
      · exact .inr h0
    clear ih hu hle
    rcases hcase with ⟨hn0, hl1⟩ | hn0
    · have hd0 : decide ((n : Int) > 0) = false := by simp; omega
      have HL1 := Lib.hid hl1
      have hn1 : n ≤ 0 := by omega
      have hd1 : decide (0 < n) = false := by simp; omega
      clear hl1 hn0
      go_enter Try.func103, Try.ntmps103
      go_wp2_with fail
      go_loopw [5, 7, 8] (fun m x _ wr => ∃ k : Nat, k ≤ (N + 1 - least).toNat ∧ x = .int .i64 (least + k) ∧ m = .int .i64 (bestOf (fun x => lon f (xs ++ [x]) x N) xs least k) ∧ Below w.heap.size w wr) (fun _ x _ _ => (N + 1 - intOf x).toNat)
      case atStart => exact ⟨0, Nat.zero_le _, by rw [HL1.out]; rfl, by rw [bestOf_zero, HL.out], Below.refl _ _⟩
      case round =>
        obtain ⟨k, hk, rfl, rfl, hb⟩ := hrel
        by_cases hlt : least + k ≤ N
        · obtain ⟨m, hm⟩ : ∃ m, m = bestOf (fun x => lon f (xs ++ [x]) x N) xs least k := ⟨_, rfl⟩
          rw [← hm]
          have HM := Lib.hid hm
          clear hm
          have hlk : least ≤ least + k := by omega
          have HV := Lib.hid (HU.out.snoc hlk)
          have hr := h.below (Nat.le_refl _) hb
          have hl0 := Own.lit wr (B := wr.heap.size) (Nat.le_refl _) [] (by simp)
          go_wp2_with (first
            | (at_builtin; refine wpList_app rfl (.tmp 31) (.tmp 32) rfl rfl hl0 rfl (hr.al _) (by simp; omega) (by simp) ?_; intro A2 c2 w2 o2 g2; simp only [Nat.zero_add, List.nil_append] at o2; have b2 := app_mark (below_alloc (Below.refl _ _) _) hl0 (Nat.le_refl _) g2)
            | (at_builtin; refine wpList_app rfl (.tmp 33) (.tmp 35) rfl rfl (o2.al _) rfl (rd_one _ _) (by omega) (by have := b2.size; simp; omega) ?_; intro A3 c3 w3 o3 g3; have b3 := app_mark (below_alloc b2 _) (o2.al _) (Nat.le_refl _) g3))
          refine (l1Many_any A3 (n + 1) c3 _ _ o3.rd (by omega) (HV.out.bd (by omega))).mono ?_
          rintro e w4 ⟨rfl, b4⟩
          have b5 := below_then (below_then hb b3) b4
          by_cases h0 : cntT (xs ++ [least + k]) = 0
          · rw [h0]
            have HY := Lib.hid (bestOf_yes (g := fun x => lon f (xs ++ [x]) x N) h0)
            clear h0
            go_wp2_with fail
            refine (IH.out A3 (n + 1) c3 (xs ++ [least + k]) _ (o3.same b4).rd (by omega) (by rw [fromOf_snoc]; exact HV.out) (by rw [fromOf_snoc]; omega)).mono ?_
            rw [fromOf_snoc]
            rintro e w6 ⟨rfl, b6⟩
            have b7 := below_then b5 b6
            rw [← HM.out] at HY
            have HZ := HY.out
            obtain ⟨z, hz⟩ : ∃ z, z = lon f (xs ++ [least + k]) (least + k) N := ⟨_, rfl⟩
            rw [← hz] at HZ ⊢
            have HZ := Lib.hid HZ
            clear hz HY
            rcases (show m ≤ z ∨ z < m by omega) with hmz | hmz
            · have e1 : max m z = z := by omega
              rw [e1] at HZ
              go_wp2_with fail
              go_roundw
              case rel => first | exact ⟨k + 1, by omega, by go_num, by rw [HZ.out], b7⟩ | ((repeat apply Exists.intro); exact ⟨⟨k + 1, by omega, by go_num, by rw [HZ.out], b7⟩, rfl⟩)
              case measure => simp [intOf]; omega
            · have e1 : max m z = m := by omega
              rw [e1] at HZ
              go_wp2_with fail
              go_roundw
              case rel => first | exact ⟨k + 1, by omega, by go_num, by rw [HZ.out], b7⟩ | ((repeat apply Exists.intro); exact ⟨⟨k + 1, by omega, by go_num, by rw [HZ.out], b7⟩, rfl⟩)
              case measure => simp [intOf]; omega
          · have hne : ((cntT (xs ++ [least + k]) : Int) == 0) = false := by simp; omega
            have HY := Lib.hid (bestOf_no (g := fun x => lon f (xs ++ [x]) x N) h0)
            clear h0
            generalize cntT (xs ++ [least + k]) = q at *
            go_wp2_with fail
            go_roundw
            case rel => first | exact ⟨k + 1, by omega, by go_num, by rw [HM.out, HY.out], b5⟩ | ((repeat apply Exists.intro); exact ⟨⟨k + 1, by omega, by go_num, by rw [HM.out, HY.out], b5⟩, rfl⟩)
            case measure => simp [intOf]; omega
        · obtain rfl : k = (N + 1 - least).toNat := by omega
          go_wp2_with fail
          go_ret
          exact ⟨rfl, hb⟩
    · have hd0 : decide ((n : Int) > 0) = true := by simp; omega
      obtain ⟨b, off, rfl, hbl, hc⟩ := h.2 hn0
      have hcx := hc (n - 1) (by omega)
      have e1 : ((n : Int) - 1).toNat = n - 1 := by omega
      have e2 : (0 : Int) ≤ (n : Int) - 1 := by omega
      have e3 : (n : Int) - 1 < (n : Int) := by omega
      have hfr : xs.getD (n - 1) 0 = least := by rw [HE.out]; unfold fromOf; rw [if_neg (by rw [h.1]; omega), h.1]
      rw [hfr] at hcx
      clear hc hfr
      go_enter Try.func103, Try.ntmps103
      go_wp2_with fail
      clear hcx
      go_loopw [5, 7, 8] (fun m x _ wr => ∃ k : Nat, k ≤ (N + 1 - least).toNat ∧ x = .int .i64 (least + k) ∧ m = .int .i64 (bestOf (fun x => lon f (xs ++ [x]) x N) xs least k) ∧ Below w.heap.size w wr) (fun _ x _ _ => (N + 1 - intOf x).toNat)
      case atStart => exact ⟨0, Nat.zero_le _, by simp, by rw [bestOf_zero, HL.out], Below.refl _ _⟩
      case round =>
        obtain ⟨k, hk, rfl, rfl, hb⟩ := hrel
        by_cases hlt : least + k ≤ N
        · obtain ⟨m, hm⟩ : ∃ m, m = bestOf (fun x => lon f (xs ++ [x]) x N) xs least k := ⟨_, rfl⟩
          rw [← hm]
          have HM := Lib.hid hm
          clear hm
          have hlk : least ≤ least + k := by omega
          have HV := Lib.hid (HU.out.snoc hlk)
          have hr := h.below (Nat.le_refl _) hb
          have hl0 := Own.lit wr (B := wr.heap.size) (Nat.le_refl _) [] (by simp)
          go_wp2_with (first
            | (at_builtin; refine wpList_app rfl (.tmp 31) (.tmp 32) rfl rfl hl0 rfl (hr.al _) (by simp; omega) (by simp) ?_; intro A2 c2 w2 o2 g2; simp only [Nat.zero_add, List.nil_append] at o2; have b2 := app_mark (below_alloc (Below.refl _ _) _) hl0 (Nat.le_refl _) g2)
            | (at_builtin; refine wpList_app rfl (.tmp 33) (.tmp 35) rfl rfl (o2.al _) rfl (rd_one _ _) (by omega) (by have := b2.size; simp; omega) ?_; intro A3 c3 w3 o3 g3; have b3 := app_mark (below_alloc b2 _) (o2.al _) (Nat.le_refl _) g3))
          refine (l1Many_any A3 (n + 1) c3 _ _ o3.rd (by omega) (HV.out.bd (by omega))).mono ?_
          rintro e w4 ⟨rfl, b4⟩
          have b5 := below_then (below_then hb b3) b4
          by_cases h0 : cntT (xs ++ [least + k]) = 0
          · rw [h0]
            have HY := Lib.hid (bestOf_yes (g := fun x => lon f (xs ++ [x]) x N) h0)
            clear h0
            go_wp2_with fail
            refine (IH.out A3 (n + 1) c3 (xs ++ [least + k]) _ (o3.same b4).rd (by omega) (by rw [fromOf_snoc]; exact HV.out) (by rw [fromOf_snoc]; omega)).mono ?_
            rw [fromOf_snoc]
            rintro e w6 ⟨rfl, b6⟩
            have b7 := below_then b5 b6
            rw [← HM.out] at HY
            have HZ := HY.out
            obtain ⟨z, hz⟩ : ∃ z, z = lon f (xs ++ [least + k]) (least + k) N := ⟨_, rfl⟩
            rw [← hz] at HZ ⊢
            have HZ := Lib.hid HZ
            clear hz HY
            rcases (show m ≤ z ∨ z < m by omega) with hmz | hmz
            · have e1 : max m z = z := by omega
              rw [e1] at HZ
              go_wp2_with fail
              go_roundw
              case rel => first | exact ⟨k + 1, by omega, by go_num, by rw [HZ.out], b7⟩ | ((repeat apply Exists.intro); exact ⟨⟨k + 1, by omega, by go_num, by rw [HZ.out], b7⟩, rfl⟩)
              case measure => simp [intOf]; omega
            · have e1 : max m z = m := by omega
              rw [e1] at HZ
              go_wp2_with fail
              go_roundw
              case rel => first | exact ⟨k + 1, by omega, by go_num, by rw [HZ.out], b7⟩ | ((repeat apply Exists.intro); exact ⟨⟨k + 1, by omega, by go_num, by rw [HZ.out], b7⟩, rfl⟩)
              case measure => simp [intOf]; omega
          · have hne : ((cntT (xs ++ [least + k]) : Int) == 0) = false := by simp; omega
            have HY := Lib.hid (bestOf_no (g := fun x => lon f (xs ++ [x]) x N) h0)
            clear h0
            generalize cntT (xs ++ [least + k]) = q at *
            go_wp2_with fail
            go_roundw
            case rel => first | exact ⟨k + 1, by omega, by go_num, by rw [HM.out, HY.out], b5⟩ | ((repeat apply Exists.intro); exact ⟨⟨k + 1, by omega, by go_num, by rw [HM.out, HY.out], b5⟩, rfl⟩)
            case measure => simp [intOf]; omega
        · obtain rfl : k = (N + 1 - least).toNat := by omega
          go_wp2_with fail
          go_ret
          exact ⟨rfl, hb⟩

/-- StickTryFree's answer. -/
def tryM (n : Int) : Int := if inB n 1 8 then lon 9 [] 1 n else 0
theorem tryM_yes {n : Int} (h : inB n 1 8 = true) : tryM n = lon 9 [] 1 n := by unfold tryM; rw [if_pos h]
theorem tryM_no {n : Int} (h : inB n 1 8 = false) : tryM n = 0 := by unfold tryM; rw [h]; rfl
theorem upto_nil : Upto [] 1 := ⟨fun j hj => absurd hj (by simp), fun y hy => by simp at hy, by omega⟩
set_option maxHeartbeats 1000000 in
theorem implStickTryFree_any (n : Int) (w : World) :
    Calls Try.prog 46 #[.int .i64 n] w fun e w' => e = .returned (.tuple #[.int .i64 (tryM n), .bool (inB n 1 8)]) ∧ Below w.heap.size w w' := by
  by_cases hin : inB n 1 8 = true
  · have hbd := inB_true hin
    have HI := Lib.hid hin
    have HM := Lib.hid (tryM_yes hin)
    have hl := Own.lit w (Nat.le_refl _) [] (by simp)
    clear hin
    go_enter Try.func46, Try.ntmps46
    go_wp2_with fail
    refine (mostFree_any n (by omega) 9 _ 0 0 [] 1 _ hl.rd (fun e => by cases e) rfl upto_nil (by omega)).mono ?_
    rintro e w1 ⟨rfl, b1⟩
    have b2 := (below_alloc (Below.refl w.heap.size w) (.cells #[] 3)).trans (b1.mono (by simp))
    go_wp2_with fail
    go_ret2
    exact ⟨by rw [HI.out, HM.out]; rfl, b2⟩
  · rw [Bool.not_eq_true] at hin
    have HI := Lib.hid hin
    have HM := Lib.hid (tryM_no hin)
    by_cases h1 : n < 1
    · clear hin
      go_enter Try.func46, Try.ntmps46
      go_wp2_with fail
      go_ret2
      exact ⟨by rw [HI.out, HM.out]; rfl, Below.refl _ _⟩
    · have h2 : 8 < n := by
        unfold inB at hin
        simp at hin
        omega
      clear hin
      go_enter Try.func46, Try.ntmps46
      go_wp2_with fail
      go_ret2
      exact ⟨by rw [HI.out, HM.out]; rfl, Below.refl _ _⟩
set_option maxHeartbeats 1000000 in
theorem specStickTryFree_any (n : Int) (w : World) :
    Calls Try.prog 47 #[.int .i64 n] w fun e w' => e = .returned (.tuple #[.int .i64 (tryM n), .bool (inB n 1 8)]) ∧ Below w.heap.size w w' := by
  by_cases hin : inB n 1 8 = true
  · have hbd := inB_true hin
    have HI := Lib.hid hin
    have HM := Lib.hid (tryM_yes hin)
    have hl := Own.lit w (Nat.le_refl _) [] (by simp)
    clear hin
    go_enter Try.func47, Try.ntmps47
    go_wp2_with fail
    refine (l6In_any _ _ _ _).mono ?_
    rintro e w' ⟨rfl, rfl⟩
    rw [HI.out]
    go_wp2_with fail
    refine (l1Longest_any n (by omega) 9 _ 0 0 [] _ hl.rd rfl upto_nil (by decide)).mono ?_
    rintro e w1 ⟨rfl, b1⟩
    have b2 := (below_alloc (Below.refl w.heap.size w) (.cells #[] 3)).trans (b1.mono (by simp))
    rw [show fromOf [] = 1 from rfl]
    go_wp2_with fail
    go_ret2
    exact ⟨by rw [HI.out, HM.out]; rfl, b2⟩
  · rw [Bool.not_eq_true] at hin
    have HI := Lib.hid hin
    have HM := Lib.hid (tryM_no hin)
    clear hin
    go_enter Try.func47, Try.ntmps47
    go_wp2_with fail
    refine (l6In_any _ _ _ _).mono ?_
    rintro e w' ⟨rfl, rfl⟩
    rw [HI.out]
    go_wp2_with fail
    go_ret2
    exact ⟨by rw [HI.out, HM.out]; rfl, Below.refl _ _⟩
end Go.Proofs.Ytaffdppmpfgghaa
