/- Joined: PartI, PisP. -/
import Derived.Test.YtiadnbdefcimiaaPartP
import Derived.Test.YtiadnbdefcimiaaParS
import Derived.Test.YtiadnbdefcimiaaPrtI
import Derived.Test.YtiadnbdefcimiaaTri
import Derived.Test.YtiadnbdefcimiaaQuiTail
/- Pure facts of parting: which lists are part lists. Nothing of the program. -/
namespace Go.Proofs.Ytiadnbdefcimiaa

/-- How many threes have begun, if they are numbered by their least places. -/
def nmS (l : List Int) : Nat → Option Nat
  | 0 => some 0
  | k + 1 => match nmS l k with
    | none => none
    | some m => if -1 ≤ l.getD k 0 ∧ l.getD k 0 ≤ m then some (if l.getD k 0 = m then m + 1 else m) else none
theorem nmS_some {l : List Int} {k m : Nat} (h : nmS l k = some m) : nmS l (k + 1) = if -1 ≤ l.getD k 0 ∧ l.getD k 0 ≤ m then some (if l.getD k 0 = m then m + 1 else m) else none := by rw [nmS, h]
theorem nmS_none {l : List Int} {k : Nat} (h : nmS l k = none) : ∀ d, nmS l (k + d) = none
  | 0 => h
  | d + 1 => by rw [← Nat.add_assoc, nmS, nmS_none h d]
theorem nmS_le {l : List Int} : ∀ {k m : Nat}, nmS l k = some m → m ≤ k
  | 0, m, h => by cases h; exact Nat.le_refl _
  | k + 1, m, h => by
    rw [nmS] at h
    split at h
    · cases h
    · rename_i m' h'
      have := nmS_le h'
      split at h
      · cases h; split <;> omega
      · cases h
theorem nmS_is {l : List Int} : ∀ {k m : Nat}, nmS l k = some m → (∀ p, p < k → -1 ≤ l.getD p 0 ∧ l.getD p 0 < m) ∧ (∀ q, q < k → ∀ s : Nat, (s : Int) < l.getD q 0 → ∃ p, p < q ∧ l.getD p 0 = s) ∧ ∀ s : Nat, s < m → ∃ p, p < k ∧ l.getD p 0 = s
  | 0, m, h => by cases h; exact ⟨fun p hp => absurd hp (by omega), fun p hp => absurd hp (by omega), fun s hs => absurd hs (by omega)⟩
  | k + 1, m, h => by
    rw [nmS] at h
    split at h
    · cases h
    · rename_i m' h'
      obtain ⟨h1, h2, h3⟩ := nmS_is h'
      split at h
      · rename_i hx
        cases h
        refine ⟨fun p hp => ?_, fun q hq s hs => ?_, fun s hs => ?_⟩
        · by_cases e : p = k
          · rw [e]; split <;> omega
          · have := h1 p (by omega); split <;> omega
        · by_cases e : q = k
          · rw [e] at hs ⊢
            exact h3 s (by omega)
          · exact h2 q (by omega) s hs
        · by_cases e : s < m'
          · obtain ⟨p, hp, h⟩ := h3 s e
            exact ⟨p, by omega, h⟩
          · refine ⟨k, by omega, ?_⟩
            split at hs <;> omega
      · cases h
theorem nmS_of {l : List Int} {n M : Nat} (h1 : ∀ p, p < n → -1 ≤ l.getD p 0 ∧ l.getD p 0 < M) (h2 : ∀ q, q < n → ∀ s : Nat, (s : Int) < l.getD q 0 → ∃ p, p < q ∧ l.getD p 0 = s) : ∀ k, k ≤ n → ∃ m, nmS l k = some m
  | 0, _ => ⟨0, rfl⟩
  | k + 1, hk => by
    obtain ⟨m, h⟩ := nmS_of h1 h2 k (by omega)
    obtain ⟨g1, _, _⟩ := nmS_is h
    have hx := h1 k (by omega)
    rw [nmS_some h]
    by_cases e : l.getD k 0 ≤ m
    · rw [if_pos ⟨hx.1, e⟩]; exact ⟨_, rfl⟩
    · obtain ⟨p, hp, h'⟩ := h2 k (by omega) m (by omega)
      have := g1 p hp
      omega
theorem nmS_thr {l : List Int} : ∀ {k m : Nat}, k ≤ l.length → nmS l k = some m → thrTo l k = m
  | 0, m, _, h => by cases h; simp [thrTo, thrL]
  | k + 1, m, hk, h => by
    rw [nmS] at h
    split at h
    · cases h
    · rename_i m' h'
      have ih := nmS_thr (by omega) h'
      rw [thrTo_succ (by omega), ih]
      split at h
      · rename_i hx
        cases h
        split <;> omega
      · cases h
theorem nmS_all {l : List Int} {m : Nat} (h : nmS l l.length = some m) : thrL l = m := by
  have := nmS_thr (Nat.le_refl _) h
  unfold thrTo at this
  rwa [List.take_length] at this
/-- The places of a number are three that are sides. -/
def thrQ (zs l : List Int) (t : Nat) : Bool := ((ofP l t).length == 3) && cloQ zs (triOf l t)
def allQs (zs l : List Int) (m : Nat) : Bool := (List.range m).all (thrQ zs l)
/-- What PartIs tells. -/
noncomputable def isP (zs l : List Int) : Bool := bundleB zs && decide (l.length = zs.length) && match nmS l l.length with
  | none => false
  | some m => allQs zs l m
theorem allQs_iff {zs l : List Int} {m : Nat} : allQs zs l m = true ↔ ∀ t, t < m → thrQ zs l t = true := by
  unfold allQs
  rw [List.all_eq_true]
  constructor
  · intro h t ht; exact h t (List.mem_range.2 ht)
  · intro h t ht; exact h t (List.mem_range.1 ht)
theorem isP_bundle {zs l : List Int} (h : bundleB zs = false) : isP zs l = false := by unfold isP; rw [h]; rfl
theorem isP_len {zs l : List Int} (h : l.length ≠ zs.length) : isP zs l = false := by unfold isP; rw [decide_eq_false h, Bool.and_false]; rfl
theorem isP_none {zs l : List Int} {k : Nat} (hk : k ≤ l.length) (h : nmS l k = none) : isP zs l = false := by
  unfold isP
  have := nmS_none h (l.length - k)
  rw [show k + (l.length - k) = l.length by omega] at this
  rw [this, Bool.and_false]
theorem isP_three {zs l : List Int} {m t : Nat} (h : nmS l l.length = some m) (ht : t < m) (hq : thrQ zs l t = false) : isP zs l = false := by
  unfold isP
  rw [h]
  have : allQs zs l m = false := by
    cases hx : allQs zs l m with
    | false => rfl
    | true => rw [allQs_iff.1 hx t ht] at hq; cases hq
  dsimp only
  rw [this, Bool.and_false]
theorem isP_yes {zs l : List Int} {m : Nat} (hb : bundleB zs = true) (hl : l.length = zs.length) (h : nmS l l.length = some m) (hq : ∀ t, t < m → thrQ zs l t = true) : isP zs l = true := by
  unfold isP
  rw [h, hb, decide_eq_true hl]
  dsimp only
  rw [allQs_iff.2 hq]; rfl
theorem three_of {α : Type} {l : List α} (h : l.length = 3) : ∃ a b c, l = [a, b, c] := by
  match l, h with
  | [a, b, c], _ => exact ⟨a, b, c, rfl⟩
theorem is_pl {zs l : List Int} (h : isP zs l = true) : bundleB zs = true ∧ ∃ M, PL (cloQ zs) zs.length l M ∧ nmS l l.length = some M := by
  unfold isP at h
  simp only [Bool.and_eq_true, decide_eq_true_eq] at h
  obtain ⟨⟨hb, hl⟩, hm⟩ := h
  refine ⟨hb, ?_⟩
  cases hn : nmS l l.length with
  | none => rw [hn] at hm; cases hm
  | some m =>
    rw [hn] at hm
    obtain ⟨h1, h2, _⟩ := nmS_is hn
    refine ⟨m, ⟨hl, by rw [← hl]; exact h1, by rw [← hl]; exact h2, fun s hs => ?_⟩, rfl⟩
    have hq := allQs_iff.1 hm s hs
    unfold thrQ at hq
    simp only [Bool.and_eq_true, beq_iff_eq] at hq
    obtain ⟨a, b, c, e⟩ := three_of hq.1
    have e2 : triOf l s = (a, b, c) := by unfold triOf; rw [e]; rfl
    rw [e2] at hq
    exact ⟨(a, b, c), e, hq.2⟩
theorem pl_is {zs l : List Int} {M : Nat} (hb : bundleB zs = true) (h : PL (cloQ zs) zs.length l M) : isP zs l = true := by
  have hl := h.len
  obtain ⟨m, hm⟩ := nmS_of h.rng h.num zs.length (Nat.le_refl _)
  rw [← hl] at hm
  have e := nmS_all hm
  rw [h.threes] at e
  refine isP_yes hb hl hm fun t ht => ?_
  obtain ⟨h1, h2⟩ := h.tri (s := t) (by omega)
  unfold thrQ
  rw [h1, h2]; rfl
theorem bundle_mono {zs : List Int} (h : Bundle zs) {i : Nat} : ∀ d, i + d < zs.length → zs.getD i 0 ≤ zs.getD (i + d) 0
  | 0, _ => Int.le_refl _
  | d + 1, hd => by
    have h1 := bundle_mono (i := i) h d (by omega)
    have h2 := h.2.2.2 (i + d) (by omega)
    rw [← Nat.add_assoc]; omega
/-- The sticks of a number are a triangle just if its places are three that are sides. -/
theorem tri_thr {zs l : List Int} (hb : bundleB zs = true) (hl : l.length = zs.length) (t : Nat) : triLB (stkL zs l t) = thrQ zs l t := by
  have h := bundleB_true hb
  unfold thrQ
  by_cases h3 : (ofP l t).length = 3
  · obtain ⟨a, b, c, e⟩ := three_of h3
    have e2 : triOf l t = (a, b, c) := by unfold triOf; rw [e]; rfl
    obtain ⟨g1, g2, g3⟩ := inc_of (t := (a, b, c)) e
    dsimp only at g1 g2 g3
    have e3 : stkL zs l t = [zs.getD a 0, zs.getD b 0, zs.getD c 0] := by unfold stkL; rw [e]; rfl
    have m1 := bundle_mono h (i := a) (b - a) (by omega)
    have m2 := bundle_mono h (i := b) (c - b) (by omega)
    rw [show a + (b - a) = b by omega] at m1
    rw [show b + (c - b) = c by omega] at m2
    have ra := h.2.2.1 a (by omega)
    have rb := h.2.2.1 b (by omega)
    have rc := h.2.2.1 c (by omega)
    rw [e, e2, e3, triLB_of rfl]
    · simp [cloQ]
    · refine bundleB_mk ⟨by simp, by simp, fun j hj => ?_, fun j hj => ?_⟩
      · match j, hj with
        | 0, _ => exact ra
        | 1, _ => exact rb
        | 2, _ => exact rc
      · match j, hj with
        | 0, _ => exact m1
        | 1, _ => exact m2
  · rw [triLB_len (by unfold stkL; rw [List.length_map]; exact h3)]
    have : ((ofP l (t : Int)).length == 3) = false := by simpa using h3
    rw [this]; rfl
end Go.Proofs.Ytiadnbdefcimiaa

/- Which lists are part lists: the program's and the model's PartIs. -/
namespace Go.Proofs.Ytiadnbdefcimiaa
open Go.RowKit Go.Sort Go.Lib

theorem stk_len9 (zs l : List Int) (k : Int) : (stkL zs l k).length ≤ l.length := by
  unfold stkL ofP
  rw [List.length_map]
  exact Nat.le_trans (List.length_filter_le _ _) (by simp)
def nmB (l : List Int) : Bool := (nmS l l.length).isSome
set_option maxHeartbeats 2000000 in
theorem numbered_any (A : Option Addr) (n c : Nat) (l : List Int) (w : World) (h : Rd w A n l) (hn : n ≤ 1048576) :
    Calls Try.prog 66 #[.slice A n c] w fun e w' => e = .returned (.bool (nmB l)) ∧ Below w.heap.size w w' := by
  have HL := Lib.hid h.1
  go_enter Try.func66, Try.ntmps66
  go_wp2_with fail
  go_loopw [3, 5, 8] (fun v _ i wr => ∃ k m : Nat, k ≤ n ∧ i = .int .i64 k ∧ v = .int .i64 m ∧ nmS l k = some m ∧ Below w.heap.size w wr) (fun _ _ i _ => n - (intOf i).toNat)
  case atStart => exact ⟨0, 0, Nat.zero_le _, rfl, rfl, rfl, Below.refl _ _⟩
  case round =>
    obtain ⟨k, m, hk, rfl, rfl, hm, hb⟩ := hrel
    have HM := Lib.hid hm
    have hmk := nmS_le hm
    clear hm
    by_cases hlt : k < n
    · obtain ⟨b, off, rfl, hbl, hc⟩ := h.2 (by omega)
      have hcx : wr.cell? ⟨b, off + k, none⟩ = some (.int .i64 (l.getD k 0)) := (hb.cell (p := ⟨b, off + k, none⟩) hbl).trans (hc k hlt)
      have HST := Lib.hid (nmS_some HM.out)
      have HNO := Lib.hid (fun (h : nmS l (k + 1) = none) => (show nmB l = false by unfold nmB; have := nmS_none h (n - (k + 1)); rw [HL.out]; rw [show k + 1 + (n - (k + 1)) = n by omega] at this; rw [this]; rfl))
      obtain ⟨x, ex⟩ : ∃ x, x = l.getD k 0 := ⟨_, rfl⟩
      rw [← ex] at hcx HST
      clear ex hc h
      by_cases h1 : x < -1
      · have HN := Lib.hid (HNO.out (by rw [HST.out, if_neg (by omega)]))
        clear HNO
        go_wp2_with fail
        go_ret
        exact ⟨ret_b HN.out.symm, hb⟩
      · have d1 : decide (x < -1) = false := decide_eq_false h1
        by_cases h2 : (m : Int) < x
        · have HN := Lib.hid (HNO.out (by rw [HST.out, if_neg (by omega)]))
          clear HNO
          go_wp2_with fail
          go_ret
          exact ⟨ret_b HN.out.symm, hb⟩
        · have d2 : decide ((m : Int) < x) = false := decide_eq_false h2
          by_cases h3 : x = m
          · have HN := Lib.hid (show nmS l (k + 1) = some (m + 1) by rw [HST.out, if_pos (by omega), if_pos h3])
            subst h3
            clear HNO
            go_wp2_with fail
            go_roundw
            case rel => first | exact ⟨k + 1, m + 1, by omega, by go_num, by go_num, HN.out, hb⟩ | ((repeat apply Exists.intro); exact ⟨⟨k + 1, m + 1, by omega, by go_num, by go_num, HN.out, hb⟩, rfl⟩)
            case measure => simp [intOf]; omega
          · have HN := Lib.hid (show nmS l (k + 1) = some m by rw [HST.out, if_pos (by omega), if_neg h3])
            have d3 : (x == (m : Int)) = false := by simpa using h3
            have d4 : decide (x = (m : Int)) = false := decide_eq_false h3
            clear HNO
            go_wp2_with fail
            go_roundw
            case rel => first | exact ⟨k + 1, m, by omega, by go_num, rfl, HN.out, hb⟩ | ((repeat apply Exists.intro); exact ⟨⟨k + 1, m, by omega, by go_num, rfl, HN.out, hb⟩, rfl⟩)
            case measure => simp [intOf]; omega
    · obtain rfl : k = n := by omega
      have HN := Lib.hid (show nmB l = true by unfold nmB; rw [HL.out, HM.out]; rfl)
      go_wp2_with fail
      go_ret
      exact ⟨ret_b HN.out.symm, hb⟩

set_option maxRecDepth 100000 in
set_option maxHeartbeats 4000000 in
theorem implPartIs_any (A A2 : Option Addr) (n c n2 c2 : Nat) (zs l : List Int) (w : World) (h : Rd w A n zs) (h2 : Rd w A2 n2 l) (hn : n ≤ 1048576) (hn2 : n2 ≤ 1048576) :
    Calls Try.prog 33 #[.slice A n c, .slice A2 n2 c2] w fun e w' => e = .returned (.bool (isP zs l)) ∧ Below w.heap.size w w' := by
  have HR := Lib.hid h
  have HR2 := Lib.hid h2
  by_cases hb : bundleB zs = true
  · have HB := Lib.hid hb
    have hbd := bundleB_true hb
    have hn9 : n ≤ 9 := by rw [← h.1]; exact hbd.2.1
    have hn1 : 1 ≤ n := by rw [← h.1]; exact hbd.1
    by_cases hl : n2 = n
    · subst hl
      have HM := Lib.hid (fun W hW => numbered_any A2 n2 c2 l W hW hn2)
      cases hnm : nmS l l.length with
      | none =>
        have HN := Lib.hid (isP_none (zs := zs) (Nat.le_refl _) hnm)
        have HV := Lib.hid (show nmB l = false by unfold nmB; rw [hnm]; rfl)
        clear h h2 hb hbd hnm
        go_enter Try.func33, Try.ntmps33
        go_wp2_with fail
        refine (valid_any _ _ _ zs _ HR.out hn).mono ?_
        rintro e w1 ⟨rfl, b1⟩
        rw [HB.out]
        go_wp2_with fail
        refine (HM.out w1 (HR2.out.same b1)).mono ?_
        rintro e w2 ⟨rfl, b2⟩
        rw [HV.out]
        go_wp2_with fail
        go_ret
        exact ⟨ret_b HN.out.symm, below_then b1 b2⟩
      | some m =>
        have HV := Lib.hid (show nmB l = true by unfold nmB; rw [hnm]; rfl)
        have HNM := Lib.hid hnm
        have hll := h2.1
        have hml := nmS_le hnm
        have hm9 : m ≤ 9 := by omega
        have hx : ∀ j, j < l.length → -1 ≤ l.getD j 0 ∧ l.getD j 0 ≤ 1000 := fun j hj => by
          have := (nmS_is hnm).1 j hj
          omega
        have HT := Lib.hid (fun W hW => threes_any A2 n2 c2 l W hW hn1 (by omega) hx)
        rw [nmS_all hnm] at HT
        have HTT := Lib.hid (fun t => tri_thr (l := l) hb (by rw [h.1, h2.1]) t)
        have HSA := Lib.hid (fun t => (show (stkL zs l t).length ≤ 1048576 by have := stk_len9 zs l t; omega))
        have HLZ := Lib.hid (show l.length = zs.length by rw [h.1, h2.1])
        clear h h2 hb hbd hnm hx hml
        go_enter Try.func33, Try.ntmps33
        go_wp2_with fail
        refine (valid_any _ _ _ zs _ HR.out hn).mono ?_
        rintro e w1 ⟨rfl, b1⟩
        rw [HB.out]
        go_wp2_with fail
        refine (HM.out w1 (HR2.out.same b1)).mono ?_
        rintro e w2 ⟨rfl, b2⟩
        rw [HV.out]
        go_wp2_with fail
        have b3 := below_then b1 b2
        refine (HT.out w2 (HR2.out.same b3)).mono ?_
        rintro e w3 ⟨rfl, b4⟩
        have HB4 := Lib.hid (below_then b3 b4)
        clear b1 b2 b3 b4 hll
        go_wp2_with fail
        go_loopw [7, 8, 9, 29] (fun _ _ _ i wr => ∃ t : Nat, t ≤ m ∧ i = .int .i64 t ∧ (∀ s, s < t → thrQ zs l s = true) ∧ Below w.heap.size w wr) (fun _ _ _ i _ => m - (intOf i).toNat)
        case atStart => exact ⟨0, Nat.zero_le _, rfl, fun s hs => absurd hs (by omega), HB4.out⟩
        case round =>
          obtain ⟨t, ht, rfl, hup, hb⟩ := hrel
          have HU := Lib.hid hup
          clear hup
          by_cases hlt : t < m
          · have HS := Lib.hid (stickL_any A2 A n2 c2 n2 c l zs (t : Int) wr (HR2.out.same hb) (HR.out.same hb) (Nat.le_refl _) (by omega))
            have HSL := Lib.hid (HSA.out (t : Int))
            have HTQ := Lib.hid (HTT.out t)
            generalize stkL zs l (t : Int) = K at *
            go_wp2_with fail
            refine HS.out.mono ?_
            rintro e w5 ⟨⟨A5, c5, rfl, o5⟩, b5⟩
            have HB5 := Lib.hid (below_then hb b5)
            have HR5 := Lib.hid o5.rd
            clear b5 o5 hb
            cases hq : thrQ zs l t with
            | true =>
              have HQ := Lib.hid hq
              have HTY := Lib.hid (triangleOf_yes A5 K.length c5 K w5 HR5.out HSL.out (HTQ.out.trans hq))
              clear hq
              generalize K.length = kl at *
              generalize K.getD 0 0 = x at *
              generalize K.getD 1 0 = y at *
              generalize K.getD 2 0 = z at *
              go_wp2_with fail
              refine HTY.out.mono ?_
              rintro e w6 ⟨rfl, b6⟩
              have HB6 := Lib.hid (below_alloc (below_then HB5.out b6) (.cells #[.int .i64 x, .int .i64 y, .int .i64 z] 51))
              clear b6
              go_wp2_with fail
              go_roundw
              case rel =>
                have hT : ∀ s, s < t + 1 → thrQ zs l s = true := fun s hs => by
                  by_cases e : s = t
                  · rw [e]; exact HQ.out
                  · exact HU.out s (by omega)
                exact ⟨t + 1, by omega, by go_num, hT, HB6.out⟩
              case measure => simp [intOf]; omega
            | false =>
              have HN := Lib.hid (isP_three HNM.out hlt hq)
              have HTY := Lib.hid (triangleOf_no A5 K.length c5 K w5 HR5.out HSL.out (HTQ.out.trans hq))
              clear hq
              generalize K.length = kl at *
              go_wp2_with fail
              refine HTY.out.mono ?_
              rintro e w6 ⟨rfl, b6⟩
              have HB6 := Lib.hid (below_alloc (below_then HB5.out b6) (.cells #[.int .i64 0, .int .i64 0, .int .i64 0] 51))
              clear b6
              go_wp2_with fail
              go_ret
              exact ⟨ret_b HN.out.symm, HB6.out⟩
          · obtain rfl : t = m := by omega
            have HN := Lib.hid (isP_yes HB.out HLZ.out HNM.out HU.out)
            go_wp2_with fail
            go_ret
            exact ⟨ret_b HN.out.symm, hb⟩
    · have HN := Lib.hid (isP_len (zs := zs) (l := l) (by rw [h.1, h2.1]; exact hl))
      have hne : ((n2 : Int) != (n : Int)) = true := by simp; omega
      have hne2 : decide ((n2 : Int) = (n : Int)) = false := by rw [decide_eq_false_iff_not]; omega
      have hne3 : decide (n2 = n) = false := decide_eq_false hl
      clear h h2 hb hbd
      go_enter Try.func33, Try.ntmps33
      go_wp2_with fail
      refine (valid_any _ _ _ zs _ HR.out hn).mono ?_
      rintro e w1 ⟨rfl, b1⟩
      rw [HB.out]
      go_wp2_with fail
      go_ret
      exact ⟨ret_b HN.out.symm, b1⟩
  · rw [Bool.not_eq_true] at hb
    have HN := Lib.hid (isP_bundle (l := l) hb)
    have HB := Lib.hid hb
    clear h h2 hb
    go_enter Try.func33, Try.ntmps33
    go_wp2_with fail
    refine (valid_any _ _ _ zs _ HR.out hn).mono ?_
    rintro e w1 ⟨rfl, b1⟩
    rw [HB.out]
    go_wp2_with fail
    go_ret
    exact ⟨ret_b HN.out.symm, b1⟩

set_option maxRecDepth 100000 in
set_option maxHeartbeats 8000000 in
theorem specPartIs_any (A A2 : Option Addr) (n c n2 c2 : Nat) (zs l : List Int) (w : World) (h : Rd w A n zs) (h2 : Rd w A2 n2 l) (hn : n ≤ 1048576) (hn2 : n2 ≤ 1048576) :
    Calls Try.prog 35 #[.slice A n c, .slice A2 n2 c2] w fun e w' => e = .returned (.bool (isP zs l)) ∧ Below w.heap.size w w' := by
  have HR := Lib.hid h
  have HR2 := Lib.hid h2
  by_cases hb : bundleB zs = true
  · have HB := Lib.hid hb
    have hbd := bundleB_true hb
    have hn9 : n ≤ 9 := by rw [← h.1]; exact hbd.2.1
    have hn1 : 1 ≤ n := by rw [← h.1]; exact hbd.1
    have hz := hbd.2.2.1
    rw [h.1] at hz
    have HZ := Lib.hid hz
    by_cases hl : n2 = n
    · subst hl
      have HL := Lib.hid h2.1
      have HLZ := Lib.hid (show l.length = zs.length by rw [h.1, h2.1])
      clear h h2 hb hbd hz
      go_enter Try.func35, Try.ntmps35
      go_wp2_with fail
      refine (l1Bundle_any _ _ _ zs _ HR.out hn).mono ?_
      rintro e w1 ⟨rfl, b1⟩
      rw [HB.out]
      go_wp2_with fail
      go_loopw [5, 6] (fun v i wr => ∃ k m : Nat, k ≤ n2 ∧ i = .int .i64 k ∧ v = .int .i64 m ∧ nmS l k = some m ∧ Below w.heap.size w wr) (fun _ i _ => n2 - (intOf i).toNat)
      case atStart => exact ⟨0, 0, Nat.zero_le _, rfl, rfl, rfl, b1⟩
      case round =>
        clear b1
        obtain ⟨k, m, hk, rfl, rfl, hm, hb⟩ := hrel
        have HM := Lib.hid hm
        have hmk := nmS_le hm
        clear hm
        by_cases hlt : k < n2
        · obtain ⟨b, off, rfl, hbl, hc⟩ := HR2.out.2 (by omega)
          have hcx : wr.cell? ⟨b, off + k, none⟩ = some (.int .i64 (l.getD k 0)) := (hb.cell (p := ⟨b, off + k, none⟩) hbl).trans (hc k hlt)
          have HST := Lib.hid (nmS_some HM.out)
          have HNO := Lib.hid (fun (h : nmS l (k + 1) = none) => isP_none (zs := zs) (by rw [HL.out]; exact hlt) h)
          obtain ⟨x, ex⟩ : ∃ x, x = l.getD k 0 := ⟨_, rfl⟩
          rw [← ex] at hcx HST
          clear ex hc
          by_cases hin : inB x (-1) m = true
          · have HI := Lib.hid hin
            have hin2 := inB_true hin
            clear hin HNO
            by_cases h3 : x = m
            · have HN := Lib.hid (show nmS l (k + 1) = some (m + 1) by rw [HST.out, if_pos hin2, if_pos h3])
              subst h3
              clear hin2
              go_wp2_with (go_at_call 71; refine (l6In_is HI.out _).mono ?_; rintro e w' ⟨rfl, rfl⟩)
              go_roundw
              case rel => first | exact ⟨k + 1, m + 1, by omega, by go_num, by go_num, HN.out, hb⟩ | ((repeat apply Exists.intro); exact ⟨⟨k + 1, m + 1, by omega, by go_num, by go_num, HN.out, hb⟩, rfl⟩)
              case measure => simp [intOf]; omega
            · have HN := Lib.hid (show nmS l (k + 1) = some m by rw [HST.out, if_pos hin2, if_neg h3])
              have d3 : (x == (m : Int)) = false := by simpa using h3
              have d4 : decide (x = (m : Int)) = false := decide_eq_false h3
              clear hin2
              go_wp2_with (go_at_call 71; refine (l6In_is HI.out _).mono ?_; rintro e w' ⟨rfl, rfl⟩)
              go_roundw
              case rel => first | exact ⟨k + 1, m, by omega, by go_num, rfl, HN.out, hb⟩ | ((repeat apply Exists.intro); exact ⟨⟨k + 1, m, by omega, by go_num, rfl, HN.out, hb⟩, rfl⟩)
              case measure => simp [intOf]; omega
          · rw [Bool.not_eq_true] at hin
            have HI := Lib.hid hin
            have HN := Lib.hid (HNO.out (by rw [HST.out, if_neg]; rintro ⟨g1, g2⟩; rw [inB_mk g1 g2] at hin; cases hin))
            clear hin HNO
            go_wp2_with (go_at_call 71; refine (l6In_is HI.out _).mono ?_; rintro e w' ⟨rfl, rfl⟩)
            go_ret
            exact ⟨ret_b HN.out.symm, hb⟩
        · obtain rfl : k = n2 := by omega
          have HNM := Lib.hid (show nmS l l.length = some m by rw [HL.out]; exact HM.out)
          have HB0 := Lib.hid hb
          go_wp2_with fail
          obtain ⟨w0, rfl⟩ : ∃ w0 : World, w0 = wr := ⟨_, rfl⟩
          clear hb
          go_loopw [7, 8] (fun i _ wr => ∃ t : Nat, t ≤ m ∧ i = .int .i64 t ∧ (∀ s, s < t → thrQ zs l s = true) ∧ Below w.heap.size w wr) (fun i _ _ => m - (intOf i).toNat)
          case atStart => exact ⟨0, Nat.zero_le _, rfl, fun s hs => absurd hs (by omega), HB0.out⟩
          case round =>
            obtain ⟨t, ht, rfl, hup, hb⟩ := hrel
            have HU := Lib.hid hup
            clear hup
            by_cases hlt : t < m
            · go_wp2_with fail
              refine (l9Of_any A2 k c2 l (t : Int) wr (HR2.out.same hb) (by omega)).mono ?_
              rintro e w5 ⟨⟨A5, c5, rfl, o5⟩, b5⟩
              have hb5 := below_then hb b5
              have HB5 := Lib.hid hb5
              have HR5 := Lib.hid o5.rd
              have HQ := Lib.hid (show thrQ zs l t = (((ofP l t).length == 3) && cloQ zs (triOf l t)) from rfl)
              have HTO := Lib.hid (show triOf l t = ((ofP l t).getD 0 0, (ofP l t).getD 1 0, (ofP l t).getD 2 0) from rfl)
              have HMEM := Lib.hid (fun p (hp : p ∈ ofP l (t : Int)) => (show p < k by have := (ofP_mem.1 hp).1; rw [HL.out] at this; exact this))
              clear b5 o5 hb hb5
              generalize ofP l (t : Int) = P3 at *
              by_cases h3 : P3.length = 3
              · obtain ⟨a1, a2, a3, rfl⟩ := three_of h3
                have m1 := HMEM.out a1 (by simp)
                have m2 := HMEM.out a2 (by simp)
                have m3 := HMEM.out a3 (by simp)
                obtain ⟨b, off, rfl, hbl, hc⟩ := (HR.out.same HB5.out).2 (by omega)
                obtain ⟨b6, off6, rfl, hbl6, hc6⟩ := HR5.out.2 (by simp)
                have x1 := cell_regrown (hc a1 m1)
                have x2 := cell_regrown (hc a2 m2)
                have x3 := cell_regrown (hc a3 m3)
                have y1 := cell_regrown (hc6 0 (by simp))
                have y2 := cell_regrown (hc6 1 (by simp))
                have y3 := cell_regrown (hc6 2 (by simp))
                simp only [intsN, List.map_cons, List.map_nil, List.getD_cons_zero, List.getD_cons_succ, Nat.add_zero] at y1 y2 y3
                have hz1 := HZ.out a1 m1
                have hz2 := HZ.out a2 m2
                have hz3 := HZ.out a3 m3
                have HQ2 := Lib.hid (show thrQ zs l t = triB (zs.getD a1 0) (zs.getD a2 0) (zs.getD a3 0) by rw [HQ.out, HTO.out]; rfl)
                have g1 : (a1 : Int) < (k : Int) := by omega
                have g2 : (a2 : Int) < (k : Int) := by omega
                have g3 : (a3 : Int) < (k : Int) := by omega
                clear hc hc6 HQ HTO HMEM h3 m1 m2 m3
                generalize zs.getD a1 0 = x at *
                generalize zs.getD a2 0 = y at *
                generalize zs.getD a3 0 = z at *
                obtain ⟨v, ev⟩ : ∃ v, triB x y z = v := ⟨_, rfl⟩
                have cF : ∀ r d os, CallsIn Fence.wide r Try.prog 73 #[.int .i64 x, .int .i64 y, .int .i64 z] (grow (redrawn w5 d) os) fun e w'' => e = .returned (.bool v) ∧ ∃ p : Regrown, w'' = grow (redrawn w5 p.d) p.os := fun r d os => callsIn_wide.2 ((l1Three_is ev hz1.1 hz1.2 hz2.1 hz2.2 hz3.1 hz3.2 _).mono (fun e w' h => ⟨h.1, ⟨⟨d, os⟩, h.2.symm⟩⟩))
                have hfn : Fence.wide.fn 73 := trivial
                rw [ev] at HQ2
                clear ev hz1 hz2 hz3
                cases v with
                | true =>
                  go_wp2_with fail
                  refine (wpIn_wide (n := 5)).1 ?_
                  refine region_qtail 24 (by kernel_rfl) (by kernel_rfl) ?_
                  simp only [List.take_succ_cons, List.take_zero, List.drop_succ_cons, List.drop_zero]
                  repeat (quiet_step_in (with_reducible exact cF _ _ _))
                  refine wpQuietIn_nil ?_
                  intro _ hw'
                  obtain ⟨⟨dq, osq⟩, hw''⟩ := hw'
                  subst hw''
                  have bq := below_regrown w5 dq osq
                  generalize Go.Sort.grow (redrawn w5 dq) osq = wq at bq ⊢
                  gi_wp2_with fail
                  have HB6 := Lib.hid (below_then HB5.out bq)
                  clear x1 x2 x3 y1 y2 y3 cF bq
                  go_wp2_with fail
                  go_roundw
                  case rel =>
                    have hT : ∀ s, s < t + 1 → thrQ zs l s = true := fun s hs => by
                      by_cases e : s = t
                      · rw [e]; exact HQ2.out
                      · exact HU.out s (by omega)
                    first | exact ⟨t + 1, by omega, by go_num, hT, HB6.out⟩ | ((repeat apply Exists.intro); exact ⟨⟨t + 1, by omega, by go_num, hT, HB6.out⟩, rfl⟩)
                  case measure => simp [intOf]; omega
                | false =>
                  have HN := Lib.hid (isP_three HNM.out hlt HQ2.out)
                  go_wp2_with fail
                  refine (wpIn_wide (n := 5)).1 ?_
                  refine region_qtail 24 (by kernel_rfl) (by kernel_rfl) ?_
                  simp only [List.take_succ_cons, List.take_zero, List.drop_succ_cons, List.drop_zero]
                  repeat (quiet_step_in (with_reducible exact cF _ _ _))
                  refine wpQuietIn_nil ?_
                  intro _ hw'
                  obtain ⟨⟨dq, osq⟩, hw''⟩ := hw'
                  subst hw''
                  have bq := below_regrown w5 dq osq
                  generalize Go.Sort.grow (redrawn w5 dq) osq = wq at bq ⊢
                  gi_wp2_with fail
                  have HB6 := Lib.hid (below_then HB5.out bq)
                  clear x1 x2 x3 y1 y2 y3 cF bq
                  go_wp2_with fail
                  go_ret
                  exact ⟨ret_b HN.out.symm, HB6.out⟩
              · have hq : thrQ zs l t = false := by rw [HQ.out, show (P3.length == 3) = false by simpa using h3]; rfl
                have HN := Lib.hid (isP_three HNM.out hlt hq)
                obtain ⟨q, eq⟩ : ∃ q, q = P3.length := ⟨_, rfl⟩
                rw [← eq] at h3 ⊢
                have hne : ((q : Int) != 3) = true := by simp; omega
                have hne2 : decide ((q : Int) = 3) = false := by rw [decide_eq_false_iff_not]; omega
                have hne3 : decide (q = 3) = false := decide_eq_false h3
                clear hq HQ HTO HMEM eq HR5
                go_wp2_with fail
                refine wp_region_quiet_below (by kernel_rfl) (by kernel_rfl) ?_
                repeat (go_big_quiet_step (fail))
                refine wpQuiet_nil ?_
                intro _ hw'
                obtain ⟨⟨dq, osq⟩, hw''⟩ := hw'
                subst hw''
                have bq := below_regrown w5 dq osq
                generalize Go.Sort.grow (redrawn w5 dq) osq = wq at bq ⊢
                go_wp2_with fail
                go_ret
                exact ⟨ret_b HN.out.symm, below_then HB5.out bq⟩
            · obtain rfl : t = m := by omega
              have HN := Lib.hid (isP_yes HB.out HLZ.out HNM.out HU.out)
              go_wp2_with fail
              go_ret
              exact ⟨ret_b HN.out.symm, hb⟩
    · have HN := Lib.hid (isP_len (zs := zs) (l := l) (by rw [h.1, h2.1]; exact hl))
      have hne : ((n2 : Int) != (n : Int)) = true := by simp; omega
      have hne2 : decide ((n2 : Int) = (n : Int)) = false := by rw [decide_eq_false_iff_not]; omega
      have hne3 : decide (n2 = n) = false := decide_eq_false hl
      clear h h2 hb hbd hz
      go_enter Try.func35, Try.ntmps35
      go_wp2_with fail
      refine (l1Bundle_any _ _ _ zs _ HR.out hn).mono ?_
      rintro e w1 ⟨rfl, b1⟩
      rw [HB.out]
      go_wp2_with fail
      go_ret
      exact ⟨ret_b HN.out.symm, b1⟩
  · rw [Bool.not_eq_true] at hb
    have HN := Lib.hid (isP_bundle (l := l) hb)
    have HB := Lib.hid hb
    clear h h2 hb
    go_enter Try.func35, Try.ntmps35
    go_wp2_with fail
    refine (l1Bundle_any _ _ _ zs _ HR.out hn).mono ?_
    rintro e w1 ⟨rfl, b1⟩
    rw [HB.out]
    go_wp2_with fail
    go_ret
    exact ⟨ret_b HN.out.symm, b1⟩
end Go.Proofs.Ytiadnbdefcimiaa
