/- The walk of the law FnTriWhole. -/
import Derived.Test.YtcfmnjkgebopcaaLaw2a
import Derived.Test.YtcfmnjkgebopcaaRowKit
import Derived.Test.YtcfmnjkgebopcaaWholeS
namespace Go.Proofs.Ytcfmnjkgebopcaa
open Go.RowKit Go.Sort

theorem len_triAllM (p : Int) : (triAllM p).length ≤ 100 := by
  by_cases h : inB p 1 60 = true
  · have hp := h
    unfold inB at hp
    simp at hp
    rw [triAllM_yes h]
    have := len_inP (n := 60) hp.1 hp.2
    rw [inP_all hp.2] at this
    omega
  · rw [Bool.not_eq_true] at h
    rw [triAllM_no h]; simp

theorem len_triWholeM (p : Int) : (triWholeM p).length ≤ 100 := Nat.le_trans (List.length_filter_le _ _) (len_triAllM p)

set_option maxRecDepth 100000 in
set_option maxHeartbeats 2000000 in
theorem sameRows_same (A A' : Option Addr) (n c c' : Nat) (L : List T3) (w : World) (h : RdT w A n L) (h' : RdT w A' n L) (hn : n ≤ 1048576) :
    Calls Try.prog 67 #[.slice A n c, .slice A' n c'] w fun e w' => e = .returned (.bool true) ∧ Below w.heap.size w w' := by
  have hm : (((n : Int)) != (n : Int)) = false := by simp
  go_enter Try.func67, Try.ntmps67
  go_wp2_with fail
  go_loopw [5] (fun i wr => ∃ k : Nat, k ≤ n ∧ i = .int .i64 k ∧ Below w.heap.size w wr) (fun i _ => n - (intOf i).toNat)
  case atStart => exact ⟨0, Nat.zero_le _, rfl, Below.refl _ _⟩
  case round =>
    obtain ⟨k, hk, rfl, hb⟩ := hrel
    by_cases hlt : k < n
    · obtain ⟨b, off, rfl, hbl, hc⟩ := h.2 (by omega)
      obtain ⟨b', off', rfl, hbl', hc'⟩ := h'.2 (by omega)
      obtain ⟨A1, c1, x1, r1⟩ := hc k hlt
      obtain ⟨A2, c2, x2, r2⟩ := hc' k hlt
      have y1 : ∀ d os, (grow (redrawn wr d) os).cell? ⟨b, off + k, none⟩ = some (.slice A1 3 c1) := fun d os => cell_regrown ((hb.cell (p := ⟨b, off + k, none⟩) hbl).trans x1) d os
      have y2 : ∀ d os, (grow (redrawn wr d) os).cell? ⟨b', off' + k, none⟩ = some (.slice A2 3 c2) := fun d os => cell_regrown ((hb.cell (p := ⟨b', off' + k, none⟩) hbl').trans x2) d os
      have cE : ∀ d os, Calls Try.prog 39 #[.slice A1 3 c1, .slice A2 3 c2] (grow (redrawn wr d) os) fun e w'' => e = .returned (.bool true) ∧ ∃ p : Regrown, w'' = grow (redrawn wr p.d) p.os := fun d os =>
        Calls.regrown_of (sameInts_any A1 A2 3 3 c1 c2 _ _ ((r1.same hb).same (below_regrown wr d os)) ((r2.same hb).same (below_regrown wr d os)) (by omega))
      have g1 : (k : Int) < (n : Int) := by omega
      have g2 : (0 : Int) ≤ (k : Int) := by omega
      have g3 : ((k : Int)).toNat = k := by omega
      have HB := Lib.hid hb
      clear x1 x2 r1 r2 hc hc' h h' hb
      go_wp2_with fail
      refine wp_region_quiet_below (by kernel_rfl) (by kernel_rfl) ?_
      repeat (go_big_quiet_step (with_reducible exact cE _ _))
      refine wpQuiet_nil ?_
      intro _ hw'
      obtain ⟨⟨dq, osq⟩, hw''⟩ := hw'
      subst hw''
      have bq := below_regrown wr dq osq
      generalize Go.Sort.grow (redrawn wr dq) osq = wq at bq ⊢
      go_wp2_with fail
      go_roundw
      case rel => exact ⟨k + 1, by omega, by go_num, HB.out.trans (bq.mono HB.out.size)⟩
      case measure => simp [intOf]; omega
    · go_wp2_with fail
      go_ret
      exact ⟨rfl, hb⟩

theorem mem_getDT {L : List T3} {i : Nat} (hi : i < L.length) : L.getD i t0 ∈ L := by
  rw [List.getD_eq_getElem?_getD, List.getElem?_eq_getElem hi]; exact List.getElem_mem hi

set_option maxHeartbeats 400000 in
theorem sameInts_gen (A A' : Option Addr) (n c n' c' : Nat) (xs ys : List Int) (w : World) (h : Rd w A n xs) (h' : Rd w A' n' ys) (hn : n ≤ 1048576) (hn' : n' ≤ 1048576) :
    Calls Try.prog 39 #[.slice A n c, .slice A' n' c'] w fun e w' => e = .returned (.bool (decide (xs = ys))) ∧ Below w.heap.size w w' := by
  by_cases hl : n = n'
  · subst hl
    have hm : (((n : Int)) != (n : Int)) = false := by simp
    go_enter Try.func39, Try.ntmps39
    go_wp2
    go_loopw [5] (fun i wr => ∃ k : Nat, k ≤ n ∧ i = .int .i64 k ∧ (∀ j, j < k → xs.getD j 0 = ys.getD j 0) ∧ Below w.heap.size w wr) (fun i _ => n - (intOf i).toNat)
    case atStart => exact ⟨0, Nat.zero_le _, rfl, fun j hj => absurd hj (by omega), Below.refl _ _⟩
    case round =>
      obtain ⟨k, hk, rfl, hsame, hb⟩ := hrel
      have HS := Lib.hid hsame
      clear hsame
      by_cases hlt : k < n
      · obtain ⟨b, off, rfl, hbl, hc⟩ := h.2 (by omega)
        obtain ⟨b', off', rfl, hbl', hc'⟩ := h'.2 (by omega)
        have hcx : wr.cell? ⟨b, off + k, none⟩ = some (.int .i64 (xs.getD k 0)) := (hb.cell (p := ⟨b, off + k, none⟩) hbl).trans (hc k hlt)
        have hcy : wr.cell? ⟨b', off' + k, none⟩ = some (.int .i64 (ys.getD k 0)) := (hb.cell (p := ⟨b', off' + k, none⟩) hbl').trans (hc' k hlt)
        have hx := h.1
        have hy := h'.1
        clear hc hc' h h'
        obtain ⟨x, ex⟩ : ∃ x, x = xs.getD k 0 := ⟨_, rfl⟩
        obtain ⟨y, ey⟩ : ∃ y, y = ys.getD k 0 := ⟨_, rfl⟩
        rw [← ex] at hcx
        rw [← ey] at hcy
        have EX := Lib.hid ex
        have EY := Lib.hid ey
        have HX := Lib.hid hx
        have HY := Lib.hid hy
        clear ex ey hx hy
        by_cases hxy : x = y
        · subst hxy
          go_wp2
          go_quiet (fail)
          go_wp2
          go_roundw
          case rel =>
            refine ⟨k + 1, by omega, by go_num, fun j hj => ?_, below_drewN hb _⟩
            by_cases hjk : j = k
            · subst hjk; rw [← EX.out, ← EY.out]
            · exact HS.out j (by omega)
          case measure => simp [intOf]; omega
        · have hne : (x != y) = true := by simpa using hxy
          go_wp2
          go_quiet (fail)
          go_wp2
          go_ret
          exact ⟨by
            have : xs ≠ ys := by rintro rfl; exact hxy (EX.out.trans EY.out.symm)
            simp [this], below_drewN hb _⟩
      · go_wp2
        go_ret
        obtain rfl : k = n := by omega
        have : xs = ys := ext_getD (by rw [h.1, h'.1]) (fun j hj => HS.out j (by rw [← h.1]; exact hj))
        exact ⟨by simp [this], hb⟩
  · have hm : (((n : Int)) != (n' : Int)) = true := by simp; omega
    go_enter Try.func39, Try.ntmps39
    go_wp2
    go_ret
    exact ⟨by
      have : xs ≠ ys := by rintro rfl; exact hl (h.1.symm.trans h'.1)
      simp [this], Below.refl _ _⟩


theorem odd_mul {x y : Int} (hx : x % 2 = 1) (hy : y % 2 = 1) : (x * y) % 2 = 1 := by rw [Int.mul_emod, hx, hy]; rfl
theorem odd_area {a b c : Int} (h : (a + b + c) % 2 = 1) : wholeB (areaM a b c) = false := by
  have h1 : areaM a b c % 2 = 1 := by
    unfold areaM
    exact odd_mul (odd_mul (odd_mul h (by omega)) (by omega)) (by omega)
  cases hw : wholeB (areaM a b c) with
  | false => rfl
  | true =>
    obtain ⟨k, _, e⟩ := wholeB_iff.1 hw
    generalize k * k = q at e
    omega
theorem odd_none {p : Int} (h : p % 2 = 1) (hp : p ≤ 60) : (allP p).filter wholeT = [] := by
  rw [List.filter_eq_nil_iff]
  intro t ht
  have hg := (mem_allP hp).1 ht
  unfold Good at hg
  rw [show wholeT t = false from odd_area (by rw [hg.2.2.2.2.1]; exact h)]
  simp
theorem root_whole {N : Int} {r : Int} (hw : wholeB N = true) (hr : 0 ≤ r) (h1 : N ≤ r * r) (h2 : ∀ j : Int, 0 ≤ j → j < r → j * j < N) : r * r = N ∧ r % 4 = 0 := by
  obtain ⟨k, hk, e⟩ := wholeB_iff.1 hw
  have e4 : (4 * k) * (4 * k) = N := by rw [← e]; grind
  have q1 : 4 * k ≤ r := sq_le (by omega) hr (by omega)
  have q2 : r ≤ 4 * k := by
    rcases Int.lt_or_le (4 * k) r with h | h
    · have := h2 (4 * k) (by omega) h; omega
    · exact h
  have : r = 4 * k := by omega
  exact ⟨by rw [this]; exact e4, by omega⟩
theorem root_small {r : Nat} {N : Int} (hN : N ≤ 155520000) (h : ∀ j : Int, 0 ≤ j → j < r → j * j < N) : r ≤ 20000 := by
  rcases Nat.lt_or_ge 20000 r with hk | hk
  · have h1 := h 20000 (by omega) (by omega)
    omega
  · exact hk
theorem trip_eq {s t : T3} : trip s = trip t ↔ s = t := by
  obtain ⟨a, b, c⟩ := s
  obtain ⟨x, y, z⟩ := t
  simp [trip]

theorem drawTriWhole_any (A : Option Addr) (n c : Nat) (bs : List Int) (w : World) (h : RdB w A n bs) (hb : Bytes bs) (hn : n ≤ 1048576) (hc : n ≤ c) :
    Calls Try.prog 80 #[.slice A n c] w (DrawnI w) := by
  go_enter Try.func80, Try.ntmps80
  go_wp2_with fail
  refine (l6Open_any A n c bs _ h hb hn hc).mono ?_
  rintro e w1 ⟨g, rfl, _, _, r1, _⟩
  go_wp2_with fail
  refine (pick_any w g _ 25 _ r1 (by omega) (by omega) (by omega)).mono ?_
  rintro e w2 ⟨v2, rfl, _, hv2, r2, _⟩
  have hv2 := hv2 (by omega)
  go_wp2_with fail
  refine (pick_any w g _ 12 _ r2 (by omega) (by omega) (by omega)).mono ?_
  rintro e w3 ⟨v3, rfl, _, hv3, r3, _⟩
  have hv3 := hv3 (by omega)
  go_wp2_with fail
  go_ret
  exact ⟨_, rfl, by omega, by omega, r3.bel_⟩

/-- Is t among the first j? -/
def inTo (L : List T3) (t : T3) : Nat → Bool
  | 0 => false
  | j + 1 => inTo L t j || decide (L.getD j t0 = t)
theorem inTo_all {L : List T3} {t : T3} (h : t ∈ L) : inTo L t L.length = true := by
  obtain ⟨i, hi, e⟩ := List.getElem_of_mem h
  have : ∀ j, i < j → inTo L t j = true := fun j hj => by
    induction j with
    | zero => omega
    | succ j ih =>
      rw [inTo]
      by_cases h1 : i = j
      · subst h1; simp [List.getD_eq_getElem?_getD, hi, e]
      · rw [ih (by omega)]; rfl
  exact this _ hi

set_option maxRecDepth 100000 in
set_option maxHeartbeats 4000000 in
theorem fnTriWhole_walk (A0 : Option Addr) (n0 c0 : Nat) (z0 : List Int) (w : World) (h0 : RdB w A0 n0 z0) (k0 : WfL .u8 z0) (q0 : n0 ≤ c0) :
    Calls Try.prog 17 #[.slice A0 n0 c0] w fun e w' => e = .returned (.bool true) ∧ Below w.heap.size w w' := by
  by_cases big : n0 ≤ 1048576
  rotate_left
  · go_enter Try.func17, Try.ntmps17
    go_wp2_with fail
    go_ret
    exact ⟨rfl, Below.refl _ _⟩
  go_enter Try.func17, Try.ntmps17
  go_wp2_with fail
  refine (drawTriWhole_any A0 n0 c0 z0 _ h0 (bytes_of k0) big q0).mono ?_
  rintro e w1 ⟨p, rfl, hp1, hp2, b1⟩
  have hI := implTriWhole_any p w1
  have hS := fun W => specTriWhole_any p W
  have hA := fun W => implTriAll_any p W
  have hlen := len_triAllM p
  have hlen2 := len_triWholeM p
  by_cases hs : inB p 1 60 = true
  · have hb := inB_true hs
    have HG := Lib.hid (fun t => (mem_allP hb.2 (t := t)).1)
    have hodd : p % 2 = 1 → (allP p).filter wholeT = [] := fun h => odd_none h hb.2
    rw [triWholeM_yes hs] at hI hlen2
    rw [triAllM_yes hs] at hlen
    simp only [triWholeM_yes hs] at hS
    simp only [triAllM_yes hs] at hA
    rw [hs] at hI hS hA
    generalize allP p = L1 at *
    have HF := Lib.hid (fun (t : T3) (ht : t ∈ L1.filter wholeT) => List.mem_filter.1 ht)
    generalize L1.filter wholeT = L2 at *
    obtain ⟨n1, hn1⟩ : ∃ n, n = L1.length := ⟨_, rfl⟩
    obtain ⟨n2, hn2⟩ : ∃ n, n = L2.length := ⟨_, rfl⟩
    rw [← hn1] at hlen hA
    rw [← hn2] at hI hlen2 hS
    have HN1 := Lib.hid hn1
    have HN2 := Lib.hid hn2
    have hpar : p % 2 = 0 ∨ (p % 2 = 1 ∧ n2 = 0) := by
      rcases (show p % 2 = 0 ∨ p % 2 = 1 by omega) with h | h
      · exact .inl h
      · exact .inr ⟨h, by rw [hn2, hodd h]; rfl⟩
    have HPR := Lib.hid hpar
    clear hs hn1 hn2 hodd hpar
    go_wp2_with fail
    refine hI.mono ?_
    rintro e w2 ⟨A, c, rfl, ⟨gs, o2⟩, b2⟩
    go_wp2_with fail
    refine (hS _).mono ?_
    rintro e w3 ⟨A2, c2, rfl, ⟨gs2, o3⟩, b4⟩
    have b5 := below_then (below_then b1 b2) b4
    have o2' := o2.same b4
    clear o2 hI hS
    go_wp2_with fail
    refine (sameRows_same A A2 n2 c c2 L2 _ o2'.rd o3.rd (by omega)).mono ?_
    rintro e w4 ⟨rfl, b6⟩
    have o4 := o2'.same b6
    have b7 := below_then b5 b6
    clear o3 o2'
    go_wp2_with fail
    refine (hA _).mono ?_
    rintro e w5 ⟨A3, c3, rfl, ⟨gs3, o5⟩, b8⟩
    have O2 := Lib.hid (o4.same b8).rd
    have O1 := Lib.hid o5.rd
    have b9 := below_then b7 b8
    clear o4 o5 hA
    go_wp2_with fail
    go_loopw [10, 11, 12, 13, 14, 15] (fun i _ _ _ _ _ wr => ∃ k : Nat, k ≤ n2 ∧ i = .int .i64 k ∧ Below w5.heap.size w5 wr) (fun i _ _ _ _ _ _ => n2 - (intOf i).toNat)
    case atStart => exact ⟨0, Nat.zero_le _, rfl, Below.refl _ _⟩
    case round =>
      obtain ⟨k, hk, rfl, hbw⟩ := hrel
      have HB := Lib.hid hbw
      by_cases hlt : k < n2
      · obtain ⟨g2, off2, rfl, hgl2, hc2⟩ := (O2.out.same hbw).2 (by omega)
        obtain ⟨B1, cB, hx, hr⟩ := hc2 k hlt
        have ht := HF.out _ (mem_getDT (L := L2) (i := k) (by rw [← HN2.out]; exact hlt))
        have hT0 := HG.out _ ht.1
        obtain ⟨x, y, z, htt⟩ : ∃ x y z, L2.getD k t0 = (x, y, z) := ⟨_, _, _, rfl⟩
        rw [htt] at ht hT0 hr
        have hP := good_tri hT0
        have hbd := (area_bd hP).2.2
        have hAr := fun W h => implTriArea_any B1 3 cB (trip (x, y, z)) W h (by omega)
        have hyes : triLB (trip (x, y, z)) = true := triLB_mk hP
        rw [show arM (trip (x, y, z)) = areaM x y z from arM_yes hyes, hyes] at hAr
        have HM := Lib.hid ht.1
        have HW := Lib.hid (show wholeB (areaM x y z) = true from ht.2)
        generalize areaM x y z = N at *
        clear hbw hc2 ht hT0 htt hP hyes
        go_wp2_with fail
        refine (hAr _ hr).mono ?_
        rintro e w6 ⟨rfl, b10⟩
        have hB6 := HB.out.trans (b10.mono HB.out.size)
        have HB6 := Lib.hid hB6
        have R2 := Lib.hid (hr.same b10)
        have hx6 := Lib.hid ((b10.cell (p := ⟨g2, off2 + k, none⟩) (block_lt_of_cell hx)).trans hx)
        clear b10 hB6 hr hx hAr
        go_wp2_with fail
        go_loopw [13, 14] (fun v j wr => ∃ (m : Nat) (q : Bool), m ≤ n1 ∧ j = .int .i64 m ∧ v = .bool q ∧ q = inTo L1 (x, y, z) m ∧ Below w6.heap.size w6 wr) (fun _ j _ => n1 - (intOf j).toNat)
        case atStart => exact ⟨0, false, Nat.zero_le _, rfl, rfl, rfl, Below.refl _ _⟩
        case round =>
          obtain ⟨m, q, hm, rfl, rfl, hq, hbw⟩ := hrel
          have HQ := Lib.hid hq
          have HBW := Lib.hid hbw
          clear hq
          by_cases hlt2 : m < n1
          · have hB1 := HB6.out.trans (hbw.mono HB6.out.size)
            obtain ⟨g3, off3, rfl, hgl3, hc3⟩ := (O1.out.same hB1).2 (by omega)
            obtain ⟨C1, cC, hx3, hr3⟩ := hc3 m hlt2
            have hx2 := (hbw.cell (p := ⟨g2, off2 + k, none⟩) (block_lt_of_cell hx6.out)).trans hx6.out
            have y3 : ∀ d os, (grow (redrawn wr d) os).cell? ⟨g3, off3 + m, none⟩ = some (.slice C1 3 cC) := fun d os => cell_regrown hx3 d os
            have y2 : ∀ d os, (grow (redrawn wr d) os).cell? ⟨g2, off2 + k, none⟩ = some (.slice B1 3 cB) := fun d os => cell_regrown hx2 d os
            have hr2 := R2.out.same hbw
            have cE : ∀ d os, Calls Try.prog 39 #[.slice C1 3 cC, .slice B1 3 cB] (grow (redrawn wr d) os) fun e w'' => e = .returned (.bool (decide (L1.getD m t0 = (x, y, z)))) ∧ ∃ p : Regrown, w'' = grow (redrawn wr p.d) p.os := fun d os => by
              have := sameInts_gen C1 B1 3 cC 3 cB _ _ _ (hr3.same (below_regrown wr d os)) (hr2.same (below_regrown wr d os)) (by omega) (by omega)
              simp only [trip_eq] at this
              exact Calls.regrown_of this
            have HI := Lib.hid (show inTo L1 (x, y, z) (m + 1) = (inTo L1 (x, y, z) m || decide (L1.getD m t0 = (x, y, z))) from rfl)
            obtain ⟨u, hu⟩ : ∃ u, u = decide (L1.getD m t0 = (x, y, z)) := ⟨_, rfl⟩
            rw [← hu] at HI cE
            rw [← HQ.out] at HI
            have g1' : (m : Int) < (n1 : Int) := by omega
            have g2' : (0 : Int) ≤ (m : Int) := by omega
            have g3' : ((m : Int)).toNat = m := by omega
            have g4' : (k : Int) < (n2 : Int) := by omega
            have g5' : ((k : Int)).toNat = k := by omega
            clear hu hx3 hx2 hr3 hr2 hc3 hB1 hbw HQ
            cases q with
            | false =>
              go_wp2_with fail
              refine wp_region_quiet_below (by kernel_rfl) (by kernel_rfl) ?_
              repeat (go_big_quiet_step (with_reducible exact cE _ _))
              refine wpQuiet_nil ?_
              intro _ hw'
              obtain ⟨⟨dq, osq⟩, hw''⟩ := hw'
              subst hw''
              have bq := below_regrown wr dq osq
              generalize Go.Sort.grow (redrawn wr dq) osq = wq at bq ⊢
              go_wp2_with fail
              go_roundw
              case rel => exact ⟨m + 1, _, by omega, by go_num, rfl, by rw [HI.out]; rfl, HBW.out.trans (bq.mono HBW.out.size)⟩
              case measure => simp [intOf]; omega
            | true =>
              go_wp2_with fail
              refine wp_region_quiet_below (by kernel_rfl) (by kernel_rfl) ?_
              repeat (go_big_quiet_step (with_reducible exact cE _ _))
              refine wpQuiet_nil ?_
              intro _ hw'
              obtain ⟨⟨dq, osq⟩, hw''⟩ := hw'
              subst hw''
              have bq := below_regrown wr dq osq
              generalize Go.Sort.grow (redrawn wr dq) osq = wq at bq ⊢
              go_wp2_with fail
              go_roundw
              case rel => exact ⟨m + 1, true, by omega, by go_num, rfl, by rw [HI.out]; rfl, HBW.out.trans (bq.mono HBW.out.size)⟩
              case measure => simp [intOf]; omega
          · obtain rfl : m = n1 := by omega
            have hq1 : q = true := by rw [HQ.out, HN1.out]; exact inTo_all HM.out
            subst hq1
            clear HQ hbw hx6 R2
            obtain ⟨W7, rfl⟩ : ∃ W7, W7 = wr := ⟨_, rfl⟩
            go_wp2_with fail
            go_loopw [15] (fun v wr => ∃ r : Nat, v = .int .i64 r ∧ (∀ j : Int, 0 ≤ j → j < r → j * j < N) ∧ wr = W7) (fun v _ => 20001 - (intOf v).toNat)
            case atStart => exact ⟨0, rfl, fun j h1 h2 => by omega, rfl⟩
            case round =>
              obtain ⟨r, rfl, hr, rfl⟩ := hrel
              have hr4 := root_small hbd.2 hr
              have HR := Lib.hid hr
              have m1 := mul_bd (a := (r : Int)) (b := (r : Int)) (A := 20000) (B := 20000) (by omega) (by omega) (by omega) (by omega)
              have v1 : IntKind.i64.wrap ((r : Int) * (r : Int)) = (r : Int) * (r : Int) := wrap_is rfl (by omega) (by omega)
              clear hr
              by_cases hlt3 : (r : Int) * (r : Int) < N
              · have hd : decide ((r : Int) * (r : Int) < N) = true := decide_eq_true hlt3
                have HRn := Lib.hid (show ∀ j : Int, 0 ≤ j → j < (r : Int) + 1 → j * j < N from fun j h1 h2 => by
                  by_cases e : j = r
                  · subst e; omega
                  · exact HR.out j h1 (by omega))
                have hr5 : r + 1 ≤ 20000 := root_small hbd.2 (by simpa using HRn.out)
                clear hlt3 HR
                go_wp2_with fail
                go_roundw
                case rel => exact ⟨r + 1, by go_num, by simpa using HRn.out, trivial⟩
                case measure => simp [intOf]; omega
              · have hd : decide ((r : Int) * (r : Int) < N) = false := decide_eq_false hlt3
                have hrt := root_whole HW.out (by omega) (by omega) HR.out
                have d1 : ((r : Int) * (r : Int) != N) = false := by simp [hrt.1]
                have d2 : (Int.tmod (r : Int) 4 != 0) = false := by rw [Int.tmod_eq_emod_of_nonneg (by omega)]; simp; omega
                have d2' : ((r : Int) % 4 != 0) = false := by simp; omega
                clear hrt hlt3 HR
                go_wp2_with fail
                go_roundw
                case rel => exact ⟨k + 1, by omega, by go_num, HB6.out.trans (HBW.out.mono HB6.out.size)⟩
                case measure => simp [intOf]; omega
      · obtain rfl : k = n2 := by omega
        have hfin := b9.trans (hbw.mono b9.size)
        have HFN := Lib.hid hfin
        clear hbw hfin
        rcases HPR.out with h | ⟨h, h2⟩
        · have d1 : (Int.tmod p 2 == 0) = true := by rw [Int.tmod_eq_emod_of_nonneg (by omega)]; simpa using h
          have d1' : (p % 2 == 0) = true := by simpa using h
          clear HPR h
          go_wp2_with fail
          go_ret
          exact ⟨rfl, HFN.out⟩
        · have d1 : (Int.tmod p 2 == 0) = false := by rw [Int.tmod_eq_emod_of_nonneg (by omega)]; simp; omega
          have d1' : (p % 2 == 0) = false := by simp; omega
          subst h2
          clear HPR h
          go_wp2_with fail
          go_ret
          exact ⟨rfl, HFN.out⟩
  · rw [Bool.not_eq_true] at hs
    rw [triWholeM_no hs] at hI
    simp only [triWholeM_no hs] at hS
    rw [hs] at hI hS
    clear hs hlen hlen2 hA
    go_wp2_with fail
    refine hI.mono ?_
    rintro e w2 ⟨A, c, rfl, ⟨gs, o2⟩, b2⟩
    go_wp2_with fail
    refine (hS _).mono ?_
    rintro e w3 ⟨A2, c2, rfl, ⟨gs2, o3⟩, b4⟩
    have b5 := below_then (below_then b1 b2) b4
    have o2' := o2.same b4
    clear o2 hI hS
    have hR := fun W h1 h2 => sameRows_same A A2 0 c c2 [] W h1 h2 (by omega)
    have r1 := o2'.rd
    have r2 := o3.rd
    clear o2' o3
    go_wp2_with fail
    refine (hR _ r1 r2).mono ?_
    rintro e w4 ⟨rfl, b6⟩
    go_wp2_with fail
    refine (hR _ (r1.same b6) (r2.same b6)).mono ?_
    rintro e w5 ⟨rfl, b8⟩
    go_wp2_with fail
    go_ret
    exact ⟨rfl, below_then (below_then b5 b6) b8⟩
end Go.Proofs.Ytcfmnjkgebopcaa
