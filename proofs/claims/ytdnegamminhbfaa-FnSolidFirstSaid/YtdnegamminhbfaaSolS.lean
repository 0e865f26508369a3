/- Contracts of the model's functions of chapter 8: solids, numbers, faces. -/
import Derived.Test.YtdnegamminhbfaaSolP
namespace Go.Proofs.Ytdnegamminhbfaa
open Go.RowKit

set_option maxHeartbeats 800000 in
theorem l8Solid_any (A : Option Addr) (n c : Nat) (xs : List Int) (w : World) (h : Rd w A n xs) (hn : n ≤ 1048576) :
    Calls Try.prog 94 #[.slice A n c] w fun e w' => e = .returned (.bool (solB xs)) ∧ Below w.heap.size w w' := by
  have HL := Lib.hid h.1
  go_enter Try.func94, Try.ntmps94
  go_wp2_with fail
  go_loopw [3] (fun i wr => ∃ k : Nat, k ≤ n ∧ i = .int .i64 k ∧ (∀ j, j < k → inB (xs.getD j 0) 1 12 = true) ∧ Below w.heap.size w wr) (fun i _ => n - (intOf i).toNat)
  case atStart => exact ⟨0, Nat.zero_le _, rfl, fun j hj => absurd hj (by omega), Below.refl _ _⟩
  case round =>
    obtain ⟨k, hk, rfl, hup, hb⟩ := hrel
    have HU := Lib.hid hup
    clear hup
    by_cases hlt : k < n
    · obtain ⟨b, off, rfl, hbl, hc⟩ := h.2 (by omega)
      have hcx : wr.cell? ⟨b, off + k, none⟩ = some (.int .i64 (xs.getD k 0)) := (hb.cell (p := ⟨b, off + k, none⟩) hbl).trans (hc k hlt)
      obtain ⟨x, ex⟩ : ∃ x, x = xs.getD k 0 := ⟨_, rfl⟩
      rw [← ex] at hcx
      have EX := Lib.hid ex
      clear ex hc h
      by_cases hin : inB x 1 12 = true
      · have HI := Lib.hid hin
        clear hin
        go_wp2_with (go_at_call 101; refine (l6In_is HI.out _).mono ?_; rintro e w' ⟨rfl, rfl⟩)
        go_roundw
        case rel => exact ⟨k + 1, by omega, by go_num, fun j hj => by
          by_cases e : j = k
          · rw [e, ← EX.out]; exact HI.out
          · exact HU.out j (by omega), hb⟩
        case measure => simp [intOf]; omega
      · rw [Bool.not_eq_true] at hin
        have HI := Lib.hid hin
        clear hin
        go_wp2_with (go_at_call 101; refine (l6In_is HI.out _).mono ?_; rintro e w' ⟨rfl, rfl⟩)
        go_ret
        exact ⟨ret_b (solB_at (k := k) (by rw [HL.out]; exact hlt) (by rw [← EX.out]; exact HI.out)).symm, hb⟩
    · obtain rfl : k = n := by omega
      have HE := Lib.hid (solB_up (fun j hj => HU.out j (by rw [← HL.out]; exact hj)))
      clear h
      have HD := Lib.hid (show decide ((k : Int) = 6) = decide (xs.length = 6) by rw [HL.out, decide_eq_decide]; omega)
      have HD2 := Lib.hid (show ((k : Int) == 6) = decide (xs.length = 6) by rw [← HD.out]; rfl)
      go_wp2_with fail
      go_ret
      exact ⟨ret_b (by rw [HE.out]; first | exact HD.out | exact HD2.out | (rw [HL.out, Bool.eq_iff_iff]; simp; omega)), hb⟩

theorem specSolidIn_any (A : Option Addr) (n c : Nat) (xs : List Int) (w : World) (h : Rd w A n xs) (hn : n ≤ 1048576) :
    Calls Try.prog 37 #[.slice A n c] w fun e w' => e = .returned (.bool (solB xs)) ∧ Below w.heap.size w w' := by
  go_enter Try.func37, Try.ntmps37
  go_wp2_with fail
  refine (l8Solid_any _ _ _ xs _ h hn).mono ?_
  rintro e w1 ⟨rfl, b1⟩
  go_wp2_with fail
  go_ret
  exact ⟨rfl, b1⟩

set_option maxHeartbeats 1600000 in
theorem l8Edge_any (i k : Int) (w : World) (hi : 0 ≤ i ∧ i ≤ 3) (hk : 0 ≤ k ∧ k ≤ 3) (hne : i ≠ k) :
    Calls Try.prog 138 #[.int .i64 i, .int .i64 k] w fun e w' => e = .returned (.int .i64 (edg i k : Nat)) ∧ w = w' := by
  have h1 : i = 0 ∨ i = 1 ∨ i = 2 ∨ i = 3 := by omega
  have h2 : k = 0 ∨ k = 1 ∨ k = 2 ∨ k = 3 := by omega
  rcases h1 with rfl | rfl | rfl | rfl <;> rcases h2 with rfl | rfl | rfl | rfl
  all_goals first
    | exact absurd rfl hne
    | (clear hi hk hne
       go_enter Try.func138, Try.ntmps138
       go_wp2_with fail
       go_ret
       exact ⟨rfl, rfl⟩)

/-- Six cells of a solid. -/
theorem sol_cells {w : World} {A : Option Addr} {a b c d e f : Int} (h : Rd w A 6 [a, b, c, d, e, f]) : ∃ g off, A = some ⟨g, off, none⟩ ∧ g < w.heap.size ∧ w.cell? ⟨g, off, none⟩ = some (.int .i64 a) ∧ w.cell? ⟨g, off + 1, none⟩ = some (.int .i64 b) ∧ w.cell? ⟨g, off + 2, none⟩ = some (.int .i64 c) ∧ w.cell? ⟨g, off + 3, none⟩ = some (.int .i64 d) ∧ w.cell? ⟨g, off + 4, none⟩ = some (.int .i64 e) ∧ w.cell? ⟨g, off + 5, none⟩ = some (.int .i64 f) := by
  obtain ⟨g, off, rfl, hg, hc⟩ := h.2 (by omega)
  exact ⟨g, off, rfl, hg, by simpa using hc 0 (by omega), by simpa using hc 1 (by omega), by simpa using hc 2 (by omega), by simpa using hc 3 (by omega), by simpa using hc 4 (by omega), by simpa using hc 5 (by omega)⟩

set_option maxHeartbeats 4000000 in
theorem l8Number_any (A : Option Addr) (c : Nat) (xs : List Int) (w : World) (h : Rd w A 6 xs) (hs : Sol xs) :
    Calls Try.prog 99 #[.slice A 6 c] w fun e w' => e = .returned (.int .i64 (numL xs)) ∧ Below w.heap.size w w' := by
  obtain ⟨x0, x1, x2, x3, x4, x5, rfl, h0, h1, h2, h3, h4, h5⟩ := hs
  obtain ⟨g, off, rfl, hg, c0, c1, c2, c3, c4, c5⟩ := sol_cells h
  have e0 : numL [x0, x1, x2, x3, x4, x5] = numQ (x0 * x0) (x1 * x1) (x2 * x2) (x3 * x3) (x4 * x4) (x5 * x5) := rfl
  obtain ⟨p, hp⟩ : ∃ p, x0 * x0 = p := ⟨_, rfl⟩
  obtain ⟨q, hq⟩ : ∃ p, x1 * x1 = p := ⟨_, rfl⟩
  obtain ⟨r, hr⟩ : ∃ p, x2 * x2 = p := ⟨_, rfl⟩
  obtain ⟨a, ha⟩ : ∃ p, x3 * x3 = p := ⟨_, rfl⟩
  obtain ⟨b, hb⟩ : ∃ p, x4 * x4 = p := ⟨_, rfl⟩
  obtain ⟨d, hd⟩ : ∃ p, x5 * x5 = p := ⟨_, rfl⟩
  have b0 := sq_bd h0
  have b1 := sq_bd h1
  have b2 := sq_bd h2
  have b3 := sq_bd h3
  have b4 := sq_bd h4
  have b5 := sq_bd h5
  rw [e0]
  rw [hp] at b0
  rw [hq] at b1
  rw [hr] at b2
  rw [ha] at b3
  rw [hb] at b4
  rw [hd] at b5
  rw [hp, hq, hr, ha, hb, hd]
  have u0 : IntKind.i64.wrap (x0 * x0) = p := wrap_is hp (by omega) (by omega)
  have u1 : IntKind.i64.wrap (x1 * x1) = q := wrap_is hq (by omega) (by omega)
  have u2 : IntKind.i64.wrap (x2 * x2) = r := wrap_is hr (by omega) (by omega)
  have u3 : IntKind.i64.wrap (x3 * x3) = a := wrap_is ha (by omega) (by omega)
  have u4 : IntKind.i64.wrap (x4 * x4) = b := wrap_is hb (by omega) (by omega)
  have u5 : IntKind.i64.wrap (x5 * x5) = d := wrap_is hd (by omega) (by omega)
  obtain ⟨⟨v1, v2, v3, v4, v5, v6⟩, K⟩ := num_wraps b0 b1 b2 b3 b4 b5
  obtain ⟨s, hs⟩ : ∃ s, s = p + q - a := ⟨_, rfl⟩
  obtain ⟨t, ht⟩ : ∃ s, s = p + r - b := ⟨_, rfl⟩
  obtain ⟨u, hu⟩ : ∃ s, s = q + r - d := ⟨_, rfl⟩
  obtain ⟨⟨w1, w2, w3, w4, w5, w6, w7, w8, w9, w10, w11, w12, w13, w14, w15⟩, _, _⟩ := K s t u hs ht hu
  obtain ⟨z, hz⟩ : ∃ z, z = numQ p q r a b d := ⟨_, rfl⟩
  rw [← hz]
  have HZ := Lib.hid (show 4 * p * q * r + s * t * u - p * u * u - q * t * t - r * s * s = z by rw [hz, hs, ht, hu]; rfl)
  replace v2 := v2.trans hs.symm
  replace v4 := v4.trans ht.symm
  replace v6 := v6.trans hu.symm
  clear h h0 h1 h2 h3 h4 h5 e0 hp hq hr ha hb hd hz hs ht hu b0 b1 b2 b3 b4 b5 K
  go_enter Try.func99, Try.ntmps99
  go_wp2_with fail
  iterate 6
    go_region
    go_wp2_with fail
  go_ret
  exact ⟨ret_i HZ.out, ((((((Below.refl _ _).drew).drew).drew).drew).drew).drew⟩

/-- The other corners, up to a number. -/
def othI (i k : Nat) : List Int := ((List.range k).map fun (j : Nat) => (j : Int)).filter fun x => decide (x ≠ (i : Int))
theorem othI_succ (i k : Nat) : othI i (k + 1) = othI i k ++ (if k = i then [] else [(k : Int)]) := by
  unfold othI
  rw [List.range_succ, List.map_append, List.filter_append]
  congr 1
  by_cases h : k = i
  · subst h; simp
  · rw [if_neg h]; simp; omega
theorem othI_len (i : Nat) : ∀ k, (othI i k).length ≤ k
  | 0 => by simp [othI]
  | k + 1 => by
    have := othI_len i k
    rw [othI_succ, List.length_append]
    split
    · simp; omega
    · simp; omega

theorem specSolidNumber_any (A : Option Addr) (n c : Nat) (xs : List Int) (w : World) (h : Rd w A n xs) (hn : n ≤ 1048576) :
    Calls Try.prog 41 #[.slice A n c] w fun e w' => e = .returned (.tuple #[.int .i64 (numM xs), .bool (solB xs)]) ∧ Below w.heap.size w w' := by
  cases hb : solB xs with
  | true =>
    have hs := sol_of hb
    obtain rfl : n = 6 := by rw [← h.1, hs.len]
    have HB := Lib.hid hb
    have HM := Lib.hid (numM_yes hb)
    have hN := fun w1 (b1 : Below w.heap.size w w1) => l8Number_any A c xs w1 (h.same b1) hs
    clear hs hb
    go_enter Try.func41, Try.ntmps41
    go_wp2_with fail
    refine (l8Solid_any _ _ _ xs _ h hn).mono ?_
    rintro e w1 ⟨rfl, b1⟩
    rw [HB.out]
    go_wp2_with fail
    refine (hN _ b1).mono ?_
    rintro e w2 ⟨rfl, b2⟩
    rw [← HM.out]
    go_wp2_with fail
    go_ret2
    exact ⟨rfl, below_then b1 b2⟩
  | false =>
    have HB := Lib.hid hb
    have HM := Lib.hid (numM_no hb)
    clear hb
    rw [HM.out]
    go_enter Try.func41, Try.ntmps41
    go_wp2_with fail
    refine (l8Solid_any _ _ _ xs _ h hn).mono ?_
    rintro e w1 ⟨rfl, b1⟩
    rw [HB.out]
    go_wp2_with fail
    go_ret2
    exact ⟨rfl, b1⟩

/-- The triangles among the other three corners. -/
theorem fac_step (xs : List Int) (i : Nat) (hi : i < 4) : ∃ a b c : Int, othI i 4 = [a, b, c] ∧ (0 ≤ a ∧ a ≤ 3) ∧ (0 ≤ b ∧ b ≤ 3) ∧ (0 ≤ c ∧ c ≤ 3) ∧ a ≠ b ∧ a ≠ c ∧ b ≠ c ∧ edg a b < 6 ∧ edg a c < 6 ∧ edg b c < 6 ∧ facTo xs (i + 1) = facTo xs i + b01 (triB (xs.getD (edg a b) 0) (xs.getD (edg a c) 0) (xs.getD (edg b c) 0)) := by
  match i, hi with
  | 0, _ => exact ⟨1, 2, 3, by decide, by omega, by omega, by omega, by omega, by omega, by omega, by decide, by decide, by decide, by rw [show edg 1 2 = 3 by decide, show edg 1 3 = 4 by decide, show edg 2 3 = 5 by decide]; simp [facTo]⟩
  | 1, _ => exact ⟨0, 2, 3, by decide, by omega, by omega, by omega, by omega, by omega, by omega, by decide, by decide, by decide, by rw [show edg 0 2 = 1 by decide, show edg 0 3 = 2 by decide, show edg 2 3 = 5 by decide]; rfl⟩
  | 2, _ => exact ⟨0, 1, 3, by decide, by omega, by omega, by omega, by omega, by omega, by omega, by decide, by decide, by decide, by rw [show edg 0 1 = 0 by decide, show edg 0 3 = 2 by decide, show edg 1 3 = 4 by decide]; rfl⟩
  | 3, _ => exact ⟨0, 1, 2, by decide, by omega, by omega, by omega, by omega, by omega, by omega, by decide, by decide, by decide, by rw [show edg 0 1 = 0 by decide, show edg 0 2 = 1 by decide, show edg 1 2 = 3 by decide]; rfl⟩

set_option maxRecDepth 100000 in
set_option maxHeartbeats 4000000 in
theorem l8Faces_any (A : Option Addr) (c : Nat) (xs : List Int) (w : World) (h : Rd w A 6 xs) (hs : Sol xs) :
    Calls Try.prog 106 #[.slice A 6 c] w fun e w' => e = .returned (.int .i64 (facL xs)) ∧ Below w.heap.size w w' := by
  have HH := Lib.hid h
  have HS := Lib.hid hs
  clear h hs
  go_enter Try.func106, Try.ntmps106
  go_wp2_with fail
  go_loopw [3, 4, 5, 6] (fun s i _ _ wr => ∃ k : Nat, k ≤ 4 ∧ i = .int .i64 k ∧ s = .int .i64 (facTo xs k) ∧ Below w.heap.size w wr) (fun _ i _ _ _ => 4 - (intOf i).toNat)
  case atStart => exact ⟨0, by omega, rfl, rfl, Below.refl _ _⟩
  case round =>
    obtain ⟨k, hk, rfl, rfl, hb⟩ := hrel
    have hbd := facTo_bd xs k
    by_cases hlt : k < 4
    · have hl := Own.lit wr (B := w.heap.size) hb.size [] (by simp)
      have hsz := hb.size
      have FS := Lib.hid (fac_step xs k hlt)
      obtain ⟨F, hF⟩ : ∃ F, F = facTo xs k := ⟨_, rfl⟩
      rw [← hF] at hbd FS ⊢
      clear hF
      have d0 : decide ((k : Int) < 4) = true := by rw [decide_eq_true_iff]; omega
      have d0' : decide (k < 4) = true := by rw [decide_eq_true_iff]; omega
      go_wp2_with fail
      go_loopw [5, 6] (fun l j wq => ∃ (m n c : Nat) (A : Option Addr), m ≤ 4 ∧ j = .int .i64 m ∧ l = .slice A n c ∧ n ≤ 4 ∧ Own wq w.heap.size A n c (othI k m) ∧ Below w.heap.size w wq) (fun _ j _ => 4 - (intOf j).toNat)
      case atStart => exact ⟨0, 0, 0, _, by omega, rfl, rfl, by omega, hl, below_alloc hb _⟩
      case round =>
        obtain ⟨m, n, c2, A2, hm, rfl, rfl, hn, ho, hb2⟩ := hrel
        clear hl hb
        by_cases hlt2 : m < 4
        · by_cases e : m = k
          · have HO := Lib.hid (show othI k (m + 1) = othI k m by rw [othI_succ, if_pos e, List.append_nil])
            subst e
            go_wp2_with fail
            go_roundw
            case rel => exact ⟨m + 1, n, c2, A2, by omega, by go_num, rfl, hn, by rw [HO.out]; exact ho, hb2⟩
            case measure => simp [intOf]; omega
          · have HO := Lib.hid (show othI k (m + 1) = othI k m ++ [(m : Int)] by rw [othI_succ, if_neg e])
            have hlen := othI_len k m
            rw [ho.len] at hlen
            have d1 : ((m : Int) != (k : Int)) = true := by simp; omega
            have oa := ho.al (.cells #[.int .i64 m] 3)
            have hsz2 := hb2.size
            go_wp2_with (at_builtin; refine wpList_app rfl (.tmp 19) (.tmp 21) rfl rfl oa rfl (rd_one _ _) (by omega) (by simp; omega) ?_; intro A' c' W' ho' hg')
            go_roundw
            case rel =>
              first
                | exact ⟨m + 1, n + 1, c', A', by omega, by go_num, rfl, by omega, by rw [HO.out]; exact ho', app_mark (below_alloc hb2 _) oa (Nat.le_refl _) hg'⟩
                | ((repeat apply Exists.intro); exact ⟨⟨m + 1, n + 1, c', A', by omega, by go_num, rfl, by omega, by rw [HO.out]; exact ho', app_mark (below_alloc hb2 _) oa (Nat.le_refl _) hg'⟩, rfl⟩)
            case measure => simp [intOf]; omega
        · obtain rfl : m = 4 := by omega
          obtain ⟨a, b, d, e1, ha, hb', hd, n1, n2, n3, k1, k2, k3, ef⟩ := FS.out
          rw [e1] at ho
          obtain rfl : n = 3 := ho.len.symm
          obtain ⟨g, rfl, _, _⟩ := ho.form (by omega)
          have c0 := ho.cell 0 (by omega)
          have c1 := ho.cell 1 (by omega)
          have c2' := ho.cell 2 (by omega)
          simp only [List.getD_cons_zero, List.getD_cons_succ] at c0 c1 c2'
          obtain ⟨g0, off, rfl, hg0, hc⟩ := HH.out.2 (by omega)
          have q1 := fun W => l8Edge_any a b W ha hb' n1
          have q2 := fun W => l8Edge_any a d W ha hd n2
          have q3 := fun W => l8Edge_any b d W hb' hd n3
          have r1 := HS.out.at_ k1
          have r2 := HS.out.at_ k2
          have r3 := HS.out.at_ k3
          have y1 := (hb2.cell (p := ⟨g0, off + edg a b, none⟩) hg0).trans (hc _ k1)
          have y2 := (hb2.cell (p := ⟨g0, off + edg a d, none⟩) hg0).trans (hc _ k2)
          have y3 := (hb2.cell (p := ⟨g0, off + edg b d, none⟩) hg0).trans (hc _ k3)
          generalize xs.getD (edg a b) 0 = x at *
          generalize xs.getD (edg a d) 0 = y at *
          generalize xs.getD (edg b d) 0 = z at *
          generalize edg a b = p1 at *
          generalize edg a d = p2 at *
          generalize edg b d = p3 at *
          have q4 := fun W => l1Three_any x y z W (by omega) (by omega) (by omega) (by omega) (by omega) (by omega)
          have v1 : IntKind.i64.wrap (F + 1) = F + 1 := wrap_is rfl (by omega) (by omega)
          have EF := Lib.hid ef
          clear ho ha hb' hd n1 n2 n3 r1 r2 r3 hc e1 ef
          generalize triB x y z = t at *
          cases t with
          | true =>
            have d0 : decide ((k : Int) < 4) = true := by rw [decide_eq_true_iff]; omega
            have d0' : decide (k < 4) = true := by rw [decide_eq_true_iff]; omega
            go_wp2_with fail
            go_quiet (first | (go_at_call 138; first | with_reducible exact quiet_left (q1 _) | with_reducible exact quiet_left (q2 _) | with_reducible exact quiet_left (q3 _) | with_reducible exact quiet_add_left (q1 _) | with_reducible exact quiet_add_left (q2 _) | with_reducible exact quiet_add_left (q3 _)) | (go_at_call 137; first | with_reducible exact quiet_left (q4 _) | with_reducible exact quiet_add_left (q4 _)))
            go_wp2_with fail
            go_roundw
            case rel =>
              first
                | exact ⟨k + 1, by omega, by go_num, congrArg (Value.int .i64) EF.out.symm, below_drewN hb2 _⟩
                | ((repeat apply Exists.intro); exact ⟨⟨k + 1, by omega, by go_num, congrArg (Value.int .i64) EF.out.symm, below_drewN hb2 _⟩, rfl⟩)
            case measure => simp [intOf]; omega
          | false =>
            have d0 : decide ((k : Int) < 4) = true := by rw [decide_eq_true_iff]; omega
            have d0' : decide (k < 4) = true := by rw [decide_eq_true_iff]; omega
            go_wp2_with fail
            go_quiet (first | (go_at_call 138; first | with_reducible exact quiet_left (q1 _) | with_reducible exact quiet_left (q2 _) | with_reducible exact quiet_left (q3 _) | with_reducible exact quiet_add_left (q1 _) | with_reducible exact quiet_add_left (q2 _) | with_reducible exact quiet_add_left (q3 _)) | (go_at_call 137; first | with_reducible exact quiet_left (q4 _) | with_reducible exact quiet_add_left (q4 _)))
            go_wp2_with fail
            go_roundw
            case rel =>
              first
                | exact ⟨k + 1, by omega, by go_num, congrArg (Value.int .i64) (by rw [EF.out]; simp [b01]), below_drewN hb2 _⟩
                | ((repeat apply Exists.intro); exact ⟨⟨k + 1, by omega, by go_num, congrArg (Value.int .i64) (by rw [EF.out]; simp [b01]), below_drewN hb2 _⟩, rfl⟩)
            case measure => simp [intOf]; omega
    · obtain rfl : k = 4 := by omega
      go_wp2_with fail
      go_ret
      exact ⟨rfl, hb⟩

theorem specSolidFaces_any (A : Option Addr) (n c : Nat) (xs : List Int) (w : World) (h : Rd w A n xs) (hn : n ≤ 1048576) :
    Calls Try.prog 47 #[.slice A n c] w fun e w' => e = .returned (.tuple #[.int .i64 (facM xs), .bool (solB xs)]) ∧ Below w.heap.size w w' := by
  cases hb : solB xs with
  | true =>
    have hs := sol_of hb
    obtain rfl : n = 6 := by rw [← h.1, hs.len]
    have HB := Lib.hid hb
    have HM := Lib.hid (facM_yes hb)
    have hN := fun w1 (b1 : Below w.heap.size w w1) => l8Faces_any A c xs w1 (h.same b1) hs
    clear hs hb
    go_enter Try.func47, Try.ntmps47
    go_wp2_with fail
    refine (l8Solid_any _ _ _ xs _ h hn).mono ?_
    rintro e w1 ⟨rfl, b1⟩
    rw [HB.out]
    go_wp2_with fail
    refine (hN _ b1).mono ?_
    rintro e w2 ⟨rfl, b2⟩
    rw [← HM.out]
    go_wp2_with fail
    go_ret2
    exact ⟨rfl, below_then b1 b2⟩
  | false =>
    have HB := Lib.hid hb
    have HM := Lib.hid (facM_no hb)
    clear hb
    rw [HM.out]
    go_enter Try.func47, Try.ntmps47
    go_wp2_with fail
    refine (l8Solid_any _ _ _ xs _ h hn).mono ?_
    rintro e w1 ⟨rfl, b1⟩
    rw [HB.out]
    go_wp2_with fail
    go_ret2
    exact ⟨rfl, b1⟩

theorem l8Stands_any (A : Option Addr) (c : Nat) (xs : List Int) (w : World) (h : Rd w A 6 xs) (hs : Sol xs) :
    Calls Try.prog 102 #[.slice A 6 c] w fun e w' => e = .returned (.bool (stdB xs)) ∧ Below w.heap.size w w' := by
  have hF := l8Faces_any A c xs w h hs
  have hN := fun w1 (b1 : Below w.heap.size w w1) => l8Number_any A c xs w1 (h.same b1) hs
  unfold stdB
  generalize facL xs = f at *
  generalize numL xs = z at *
  clear h hs
  by_cases hf : f = 4
  · subst hf
    go_enter Try.func102, Try.ntmps102
    go_wp2_with fail
    refine hF.mono ?_
    rintro e w1 ⟨rfl, b1⟩
    go_wp2_with fail
    refine (hN _ b1).mono ?_
    rintro e w2 ⟨rfl, b2⟩
    go_wp2_with fail
    go_ret
    exact ⟨ret_b (by simp), below_then b1 b2⟩
  · have d1 : (f == 4) = false := by simpa using hf
    have d2 := Lib.hid (decide_eq_false hf)
    clear hN
    go_enter Try.func102, Try.ntmps102
    go_wp2_with fail
    refine hF.mono ?_
    rintro e w1 ⟨rfl, b1⟩
    go_wp2_with fail
    go_ret
    exact ⟨ret_b (by rw [d2.out]; rfl), b1⟩

theorem specSolidStands_any (A : Option Addr) (n c : Nat) (xs : List Int) (w : World) (h : Rd w A n xs) (hn : n ≤ 1048576) :
    Calls Try.prog 52 #[.slice A n c] w fun e w' => e = .returned (.bool (stdM xs)) ∧ Below w.heap.size w w' := by
  cases hb : solB xs with
  | true =>
    have hs := sol_of hb
    obtain rfl : n = 6 := by rw [← h.1, hs.len]
    have HB := Lib.hid hb
    have HM := Lib.hid (stdM_yes hb)
    have hN := fun w1 (b1 : Below w.heap.size w w1) => l8Stands_any A c xs w1 (h.same b1) hs
    clear hs hb
    go_enter Try.func52, Try.ntmps52
    go_wp2_with fail
    refine (l8Solid_any _ _ _ xs _ h hn).mono ?_
    rintro e w1 ⟨rfl, b1⟩
    rw [HB.out]
    go_wp2_with fail
    refine (hN _ b1).mono ?_
    rintro e w2 ⟨rfl, b2⟩
    rw [← HM.out]
    go_wp2_with fail
    go_ret
    exact ⟨rfl, below_then b1 b2⟩
  | false =>
    have HB := Lib.hid hb
    have HM := Lib.hid (stdM_no hb)
    clear hb
    rw [HM.out]
    go_enter Try.func52, Try.ntmps52
    go_wp2_with fail
    refine (l8Solid_any _ _ _ xs _ h hn).mono ?_
    rintro e w1 ⟨rfl, b1⟩
    rw [HB.out]
    go_wp2_with fail
    go_ret
    exact ⟨rfl, b1⟩
end Go.Proofs.Ytdnegamminhbfaa
