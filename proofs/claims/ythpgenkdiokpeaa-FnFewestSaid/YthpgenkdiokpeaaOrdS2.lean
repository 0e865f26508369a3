/- The model's stars, pairs of steps. -/
import Derived.Test.YthpgenkdiokpeaaStepsOf
import Derived.Test.YthpgenkdiokpeaaOrdP
import Derived.Test.YthpgenkdiokpeaaPathS
namespace Go.Proofs.Ythpgenkdiokpeaa
open Go.RowKit Go.Sort Go.Lib

/-- A star. -/
def starB (L : List (List Int)) : Bool := stepsB L && (decide (2 ≤ L.length) && decide (L.length ≤ 4))
theorem starB_true {L : List (List Int)} (h : starB L = true) : stepsB L = true ∧ 2 ≤ L.length ∧ L.length ≤ 4 ∧ ∀ s ∈ ptsL L, stepP s := by
  simp only [starB, Bool.and_eq_true, decide_eq_true_eq] at h
  exact ⟨h.1, h.2.1, h.2.2, fun s hs => by
    obtain ⟨r, hr, rfl⟩ := List.mem_map.1 hs
    exact (stepRow_pt (List.all_eq_true.1 h.1 r hr)).1⟩

set_option maxRecDepth 100000 in
set_option maxHeartbeats 2000000 in
theorem l7Star_any (A : Option Addr) (n c : Nat) (L : List (List Int)) (w : World) (h : RdM w A n L) (hs : SmallM L) :
    Calls Try.prog 143 #[.slice A n c] w fun e w' => e = .returned (.bool (starB L)) ∧ Below w.heap.size w w' := by
  have hl := h.1
  have hn : n ≤ 1048576 := by rw [← hl]; exact hs.len
  have HL := Lib.hid hl
  have HS := Lib.hid hs
  obtain ⟨pb, epb⟩ : ∃ pb, pb = starB L := ⟨_, rfl⟩
  rw [← epb]
  have EPB := Lib.hid epb
  clear epb hs hl
  go_enter Try.func143, Try.ntmps143
  go_wp2_with fail
  go_loopw [3] (fun i wr => ∃ k : Nat, k ≤ n ∧ i = .int .i64 k ∧ (∀ j, j < k → stepRow (rowL L j) = true) ∧ Below w.heap.size w wr) (fun i _ => n - (intOf i).toNat)
  case atStart => exact ⟨0, Nat.zero_le _, rfl, fun j hj => absurd hj (by omega), Below.refl _ _⟩
  case round =>
    obtain ⟨k, hk, rfl, hst, hb⟩ := hrel
    by_cases hlt : k < n
    · obtain ⟨b, off, rfl, hbl, hc⟩ := h.2 (by omega)
      obtain ⟨A1, c1, x1, r1⟩ := hc k hlt
      have hcx : wr.cell? ⟨b, off + k, none⟩ = some (.slice A1 (rowL L k).length c1) := (hb.cell (p := ⟨b, off + k, none⟩) hbl).trans x1
      have hSt := l6sStep_any A1 (rowL L k).length c1 (rowL L k) wr (r1.same hb) (HS.out.row (by rw [HL.out]; exact hlt))
      have HB := Lib.hid hb
      have HST := Lib.hid hst
      cases hsr : stepRow (rowL L k) with
      | false =>
        have HF := Lib.hid (EPB.out.trans (show starB L = false by unfold starB; rw [stepsB_row (by rw [HL.out]; exact hlt) hsr]; rfl))
        rw [hsr] at hSt
        generalize (rowL L k).length = m at *
        clear hc h x1 r1 hb hst hsr
        go_wp2_with fail
        refine hSt.mono ?_
        rintro e w2 ⟨rfl, rfl⟩
        go_wp2_with fail
        go_ret
        exact ⟨ret_b HF.out.symm, HB.out⟩
      | true =>
        have HN := Lib.hid (show ∀ j, j < k + 1 → stepRow (rowL L j) = true from fun j hj => by
          by_cases e : j = k
          · rw [e]; exact hsr
          · exact hst j (by omega))
        rw [hsr] at hSt
        generalize (rowL L k).length = m at *
        clear hc h x1 r1 hb hst hsr
        go_wp2_with fail
        refine hSt.mono ?_
        rintro e w2 ⟨rfl, rfl⟩
        go_wp2_with fail
        go_roundw
        case rel => exact ⟨k + 1, by omega, by go_num, HN.out, HB.out⟩
        case measure => simp [intOf]; omega
    · obtain rfl : k = n := by omega
      have HF := Lib.hid (EPB.out.trans (show starB L = inB (k : Int) 2 4 by
        unfold starB inB; rw [stepsB_all (by rw [HL.out]; exact hst), HL.out, Bool.true_and, Bool.eq_iff_iff]
        simp only [Bool.and_eq_true, decide_eq_true_eq]; omega))
      have HB := Lib.hid hb
      clear h hb hst
      go_wp2_with fail
      refine (l6In_any _ _ _ _).mono ?_
      rintro e w' ⟨rfl, rfl⟩
      go_wp2_with fail
      go_ret
      exact ⟨ret_b HF.out.symm, HB.out⟩

/-- Two rows of steps, crosswise. -/
theorem crossRow {A : Option Addr} {n i k : Nat} {L : List (List Int)} {w : World} (h : RdM w A n L) (hs : stepsB L = true) (hi : i < n) (hk : k < n) :
    ∃ b off A1 c1 A2 c2, A = some ⟨b, off, none⟩ ∧ w.cell? ⟨b, off + i, none⟩ = some (.slice A1 2 c1) ∧ w.cell? ⟨b, off + k, none⟩ = some (.slice A2 2 c2) ∧
      ∀ W, Below w.heap.size w W → Calls Try.prog 123 #[.slice A1 2 c1, .slice A2 2 c2] W fun e w' => e = .returned (.int .i64 (crs (atP (ptsL L) i) (atP (ptsL L) k))) ∧ Below W.heap.size W w' := by
  obtain ⟨b, off, rfl, hbl, hc⟩ := h.2 (by omega)
  obtain ⟨A1, c1, x1, r1⟩ := hc i hi
  obtain ⟨A2, c2, x2, r2⟩ := hc k hk
  have q1 := stepRow_pt (stepsB_at hs (j := i) (by rw [h.1]; exact hi))
  have q2 := stepRow_pt (stepsB_at hs (j := k) (by rw [h.1]; exact hk))
  rw [q1.2] at x1 r1
  rw [q2.2] at x2 r2
  refine ⟨b, off, A1, c1, A2, c2, rfl, x1, x2, fun W hW => ?_⟩
  have e1 : atP (ptsL L) i = rowPt (rowL L i) := ptsL_at (by rw [h.1]; exact hi)
  have e2 : atP (ptsL L) k = rowPt (rowL L k) := ptsL_at (by rw [h.1]; exact hk)
  rw [e1, e2]
  refine l6sCross_any A1 A2 c1 c2 (rowL L i) (rowL L k) W (r1.same hW) (r2.same hW) fun a b ha hb => ?_
  have u1 := q1.1
  have u2 := q2.1
  unfold stepP at u1 u2
  simp only [rowPt] at u1 u2
  have := mul_sq (a := a) (b := b) (A := 9) (B := 9) (by rcases ha with rfl | rfl <;> omega) (by rcases ha with rfl | rfl <;> omega) (by rcases hb with rfl | rfl <;> omega) (by rcases hb with rfl | rfl <;> omega)
  omega

theorem prS_succ (f : Pt → Pt → Int) (l : List Pt) (i : Nat) : prS f l (i + 1) = prS f l i + sumF (fun k => f (atP l i) (atP l k)) i := rfl
theorem prS_bd {f : Pt → Pt → Int} {l : List Pt} {b : Int} (hb : 0 ≤ b) (h4 : l.length ≤ 4) (hf : ∀ i k, i < l.length → k < l.length → -b ≤ f (atP l i) (atP l k) ∧ f (atP l i) (atP l k) ≤ b) {i k : Nat} (hi : i ≤ l.length) (hk : k ≤ i) (hi2 : i < l.length ∨ k = 0) :
    -(32 * b) ≤ prS f l i + sumF (fun k => f (atP l i) (atP l k)) k ∧ prS f l i + sumF (fun k => f (atP l i) (atP l k)) k ≤ 32 * b := by
  have key : ∀ j m, j < l.length → m ≤ j → -(4 * b) ≤ sumF (fun k => f (atP l j) (atP l k)) m ∧ sumF (fun k => f (atP l j) (atP l k)) m ≤ 4 * b := fun j m hj hm => by
    have h1 := sumF_bd (f := fun k => f (atP l j) (atP l k)) (b := b) (n := m) (fun k hk => hf j k hj (by omega))
    have h2 : b * (m : Int) ≤ b * 4 := Int.mul_le_mul_of_nonneg_left (by omega) hb
    omega
  have h3 := sumF_bd (f := fun j => sumF (fun k => f (atP l j) (atP l k)) j) (b := 4 * b) (n := i) (fun j hj => key j j (by omega) (Nat.le_refl _))
  have h4' : 4 * b * (i : Int) ≤ 4 * b * 4 := Int.mul_le_mul_of_nonneg_left (by omega) (by omega)
  unfold prS
  rcases hi2 with h | h
  · have := key i k h hk
    omega
  · subst h
    simp only [sumF]
    omega
theorem abC_bd {a b : Pt} (ha : stepP a) (hb : stepP b) : (-162 ≤ crs a b ∧ crs a b ≤ 162) ∧ 0 ≤ abC a b ∧ abC a b ≤ 162 := by
  unfold stepP at ha hb
  have := crs_bd (a := a) (b := b) (A := 9) (B := 9) ha.1 ha.2.1 hb.1 hb.2.1
  refine ⟨by omega, ?_⟩
  unfold abC
  split <;> omega
def ifS (L : List (List Int)) (f : List Pt → Int) : Int := if starB L then f (ptsL L) else 0
theorem ifS_yes {L : List (List Int)} (f : List Pt → Int) (h : starB L = true) : ifS L f = f (ptsL L) := by unfold ifS; rw [if_pos h]
theorem ifS_no {L : List (List Int)} (f : List Pt → Int) (h : starB L = false) : ifS L f = 0 := by unfold ifS; rw [h]; rfl
/-- The model's area of a star, and its pieces. -/
def zarP (l : List Pt) : Int := prS (fun a b => 2 * abC a b) l l.length
def zpcP (l : List Pt) : Int := prS neC l l.length

set_option maxRecDepth 100000 in
set_option maxHeartbeats 4000000 in
theorem l7Pieces_any (A : Option Addr) (n c : Nat) (L : List (List Int)) (w : World) (h : RdM w A n L) (hp : starB L = true) :
    Calls Try.prog 149 #[.slice A n c] w fun e w' => e = .returned (.int .i64 (zpcP (ptsL L))) ∧ Below w.heap.size w w' := by
  obtain ⟨hst, h2, h4, hsp⟩ := starB_true hp
  have hl := h.1
  rw [hl] at h2 h4
  have hlp : (ptsL L).length = n := by simp [hl]
  have HX := Lib.hid (fun wr (hb : Below w.heap.size w wr) i k (hi : i < n) (hk : k < n) => crossRow (h.same hb) hst hi hk)
  have HBd := Lib.hid (fun i k (hi : i ≤ n) (hk : k ≤ i) (h3 : i < n ∨ k = 0) => prS_bd (f := neC) (l := ptsL L) (b := 1) (by omega) (by omega) (fun i k _ _ => by unfold neC; split <;> omega) (by omega : i ≤ _) hk (by omega))
  have HZ := Lib.hid (show zpcP (ptsL L) = prS neC (ptsL L) n by unfold zpcP; rw [hlp])
  rw [HZ.out]
  generalize ptsL L = l at *
  clear h hp hst hsp hl hlp HZ
  go_enter Try.func149, Try.ntmps149
  go_wp2_with fail
  go_loopw [3, 4, 5] (fun s i _ wr => ∃ i' : Nat, i' ≤ n ∧ i = .int .i64 i' ∧ s = .int .i64 (prS neC l i') ∧ Below w.heap.size w wr) (fun _ i _ _ => n - (intOf i).toNat)
  case atStart => exact ⟨0, Nat.zero_le _, rfl, rfl, Below.refl _ _⟩
  case round =>
    obtain ⟨i, hi, rfl, rfl, hb⟩ := hrel
    by_cases hlt : i < n
    · have HB := Lib.hid hb
      have HSm := Lib.hid (prS_succ neC l i)
      clear hb
      go_wp2_with fail
      go_loopw [3, 5] (fun s k wr => ∃ k' : Nat, k' ≤ i ∧ k = .int .i64 k' ∧ s = .int .i64 (prS neC l i + sumF (fun k => neC (atP l i) (atP l k)) k') ∧ Below w.heap.size w wr) (fun _ k _ => i - (intOf k).toNat)
      case atStart => exact ⟨0, Nat.zero_le _, rfl, by simp [sumF], HB.out⟩
      case round =>
        obtain ⟨k, hk, rfl, rfl, hb⟩ := hrel
        by_cases hkl : k < i
        · obtain ⟨b, off, A1, c1, A2, c2, rfl, x1, x2, hX⟩ := HX.out _ hb i k hlt (by omega)
          have cE : ∀ d os, Calls Try.prog 123 #[.slice A1 2 c1, .slice A2 2 c2] (grow (redrawn wr d) os) fun e w'' => e = .returned (.int .i64 (crs (atP l i) (atP l k))) ∧ ∃ p : Regrown, w'' = grow (redrawn wr p.d) p.os := fun d os =>
            Calls.regrown_of (hX _ (below_regrown wr d os))
          have y1 : ∀ d os, (grow (redrawn wr d) os).cell? ⟨b, off + i, none⟩ = some (.slice A1 2 c1) := fun d os => cell_regrown x1 d os
          have y2 : ∀ d os, (grow (redrawn wr d) os).cell? ⟨b, off + k, none⟩ = some (.slice A2 2 c2) := fun d os => cell_regrown x2 d os
          have HSk := Lib.hid (show sumF (fun k => neC (atP l i) (atP l k)) (k + 1) = sumF (fun k => neC (atP l i) (atP l k)) k + neC (atP l i) (atP l k) from rfl)
          have bd := HBd.out i k (by omega) (by omega) (.inl hlt)
          have HN := Lib.hid (show neC (atP l i) (atP l k) = if crs (atP l i) (atP l k) = 0 then 0 else 1 from rfl)
          generalize neC (atP l i) (atP l k) = ne at *
          generalize crs (atP l i) (atP l k) = z at *
          obtain ⟨S, eS⟩ : ∃ S, S = prS neC l i + sumF (fun k => neC (atP l i) (atP l k)) k := ⟨_, rfl⟩
          rw [← eS] at bd ⊢
          have ES := Lib.hid eS
          have v1 : IntKind.i64.wrap (S + 1) = S + 1 := wrap_is rfl (by omega) (by omega)
          have HB2 := Lib.hid hb
          clear hX x1 x2 hb eS bd
          by_cases hz : z = 0
          · subst hz
            go_wp2_with fail
            refine wp_region_quiet_below (by kernel_rfl) (by kernel_rfl) ?_
            repeat (go_big_quiet_step (with_reducible exact cE _ _))
            refine wpQuiet_nil ?_
            intro _ hw'
            obtain ⟨⟨dq, osq⟩, hw''⟩ := hw'
            subst hw''
            have bq := below_regrown wr dq osq
            generalize Go.Sort.grow (redrawn wr dq) osq = wq at bq ⊢
            go_wp2_with fail
            go_roundw
            case rel => exact ⟨k + 1, by omega, by go_num, by rw [HSk.out, HN.out, ES.out]; simp, HB2.out.trans (bq.mono HB2.out.size)⟩
            case measure => simp [intOf]; omega
          · have d1 : (z != 0) = true := by simpa using hz
            have hN2 : ne = 1 := by rw [HN.out, if_neg hz]
            have HN2 := Lib.hid hN2
            clear hz hN2
            go_wp2_with fail
            refine wp_region_quiet_below (by kernel_rfl) (by kernel_rfl) ?_
            repeat (go_big_quiet_step (with_reducible exact cE _ _))
            refine wpQuiet_nil ?_
            intro _ hw'
            obtain ⟨⟨dq, osq⟩, hw''⟩ := hw'
            subst hw''
            have bq := below_regrown wr dq osq
            generalize Go.Sort.grow (redrawn wr dq) osq = wq at bq ⊢
            go_wp2_with fail
            go_roundw
            case rel => exact ⟨k + 1, by omega, by go_num, by rw [HSk.out, HN2.out, ES.out]; congr 1; omega, HB2.out.trans (bq.mono HB2.out.size)⟩
            case measure => simp [intOf]; omega
        · obtain rfl : k = i := by omega
          go_wp2_with fail
          go_roundw
          case rel => exact ⟨k + 1, by omega, by go_num, by rw [HSm.out], hb⟩
          case measure => simp [intOf]; omega
    · obtain rfl : i = n := by omega
      go_wp2_with fail
      go_ret
      exact ⟨rfl, hb⟩

set_option maxRecDepth 100000 in
set_option maxHeartbeats 2000000 in
theorem specZonoPieces_any (A : Option Addr) (n c : Nat) (L : List (List Int)) (w : World) (h : RdM w A n L) (hs : SmallM L) :
    Calls Try.prog 88 #[.slice A n c] w fun e w' => e = .returned (.tuple #[.int .i64 (ifS L zpcP), .bool (starB L)]) ∧ Below w.heap.size w w' := by
  have hI := l7Star_any A n c L w h hs
  cases hp : starB L with
  | false =>
    rw [ifS_no _ hp]
    rw [hp] at hI
    clear h hs hp
    go_enter Try.func88, Try.ntmps88
    go_wp2_with fail
    refine hI.mono ?_
    rintro e w1 ⟨rfl, b1⟩
    go_wp2_with fail
    refine bodyPost_ret (results_tmp2 rfl _ _ _) rfl ?_
    exact ⟨rfl, b1⟩
  | true =>
    rw [ifS_yes _ hp]
    rw [hp] at hI
    have HP := Lib.hid (fun W (hW : Below w.heap.size w W) => l7Pieces_any A n c L W (h.same hW) hp)
    generalize zpcP (ptsL L) = z at *
    clear h hs hp
    go_enter Try.func88, Try.ntmps88
    go_wp2_with fail
    refine hI.mono ?_
    rintro e w1 ⟨rfl, b1⟩
    go_wp2_with fail
    refine (HP.out _ b1).mono ?_
    rintro e w2 ⟨rfl, b2⟩
    go_wp2_with fail
    refine bodyPost_ret (results_tmp2 rfl _ _ _) rfl ?_
    exact ⟨rfl, below_then b1 b2⟩

set_option maxRecDepth 100000 in
set_option maxHeartbeats 4000000 in
theorem specZonoArea_any (A : Option Addr) (n c : Nat) (L : List (List Int)) (w : World) (h : RdM w A n L) (hs : SmallM L) :
    Calls Try.prog 85 #[.slice A n c] w fun e w' => e = .returned (.tuple #[.int .i64 (ifS L zarP), .bool (starB L)]) ∧ Below w.heap.size w w' := by
  have hI := l7Star_any A n c L w h hs
  cases hp : starB L with
  | false =>
    rw [ifS_no _ hp]
    rw [hp] at hI
    clear h hs hp
    go_enter Try.func85, Try.ntmps85
    go_wp2_with fail
    refine hI.mono ?_
    rintro e w1 ⟨rfl, b1⟩
    go_wp2_with fail
    refine bodyPost_ret (results_tmp2 rfl _ _ _) rfl ?_
    exact ⟨rfl, b1⟩
  | true =>
    rw [ifS_yes _ hp]
    rw [hp] at hI
    obtain ⟨hst, h2, h4, hsp⟩ := starB_true hp
    have hl := h.1
    rw [hl] at h2 h4
    have hlp : (ptsL L).length = n := by simp [hl]
    have HX := Lib.hid (fun wr (hb : Below w.heap.size w wr) i k (hi : i < n) (hk : k < n) => crossRow (h.same hb) hst hi hk)
    obtain ⟨f, ef⟩ : ∃ f : Pt → Pt → Int, f = fun a b => 2 * abC a b := ⟨_, rfl⟩
    have hfb : ∀ i k, i < (ptsL L).length → k < (ptsL L).length → -324 ≤ f (atP (ptsL L) i) (atP (ptsL L) k) ∧ f (atP (ptsL L) i) (atP (ptsL L) k) ≤ 324 := fun i k hi hk => by
      have := abC_bd (hsp (atP (ptsL L) i) (by rw [atP_lt hi]; exact List.getElem_mem hi)) (hsp (atP (ptsL L) k) (by rw [atP_lt hk]; exact List.getElem_mem hk))
      rw [ef]; dsimp only; omega
    have HCb := Lib.hid (fun i k (hi : i < n) (hk : k < n) => abC_bd (hsp (atP (ptsL L) i) (by rw [atP_lt (by omega)]; exact List.getElem_mem _)) (hsp (atP (ptsL L) k) (by rw [atP_lt (by omega)]; exact List.getElem_mem _)))
    have HBd := Lib.hid (fun i k (hi : i ≤ n) (hk : k ≤ i) (h3 : i < n ∨ k = 0) => prS_bd (f := f) (l := ptsL L) (b := 324) (by omega) (by omega) hfb (by omega : i ≤ _) hk (by omega))
    have HZ := Lib.hid (show zarP (ptsL L) = prS f (ptsL L) n by unfold zarP; rw [hlp, ef])
    rw [HZ.out]
    have EF := Lib.hid ef
    generalize ptsL L = l at *
    clear h hp hst hsp hl hlp HZ hs hfb ef
    go_enter Try.func85, Try.ntmps85
    go_wp2_with fail
    refine hI.mono ?_
    rintro e w1 ⟨rfl, b1⟩
    have B1 := Lib.hid b1
    clear b1
    go_wp2_with fail
    go_loopw [4, 5, 6, 7] (fun s i _ _ wr => ∃ i' : Nat, i' ≤ n ∧ i = .int .i64 i' ∧ s = .int .i64 (prS f l i') ∧ Below w.heap.size w wr) (fun _ i _ _ _ => n - (intOf i).toNat)
    case atStart => exact ⟨0, Nat.zero_le _, rfl, rfl, B1.out⟩
    case round =>
      obtain ⟨i, hi, rfl, rfl, hb⟩ := hrel
      by_cases hlt : i < n
      · have HB := Lib.hid hb
        have HSm := Lib.hid (prS_succ f l i)
        clear hb
        go_wp2_with fail
        go_loopw [4, 6, 7] (fun s k _ wr => ∃ k' : Nat, k' ≤ i ∧ k = .int .i64 k' ∧ s = .int .i64 (prS f l i + sumF (fun k => f (atP l i) (atP l k)) k') ∧ Below w.heap.size w wr) (fun _ k _ _ => i - (intOf k).toNat)
        case atStart => exact ⟨0, Nat.zero_le _, rfl, by simp [sumF], HB.out⟩
        case round =>
          obtain ⟨k, hk, rfl, rfl, hb⟩ := hrel
          by_cases hkl : k < i
          · obtain ⟨b, off, A1, c1, A2, c2, rfl, x1, x2, hX⟩ := HX.out _ hb i k hlt (by omega)
            have cE : ∀ d os, Calls Try.prog 123 #[.slice A1 2 c1, .slice A2 2 c2] (grow (redrawn wr d) os) fun e w'' => e = .returned (.int .i64 (crs (atP l i) (atP l k))) ∧ ∃ p : Regrown, w'' = grow (redrawn wr p.d) p.os := fun d os =>
              Calls.regrown_of (hX _ (below_regrown wr d os))
            have y1 : ∀ d os, (grow (redrawn wr d) os).cell? ⟨b, off + i, none⟩ = some (.slice A1 2 c1) := fun d os => cell_regrown x1 d os
            have y2 : ∀ d os, (grow (redrawn wr d) os).cell? ⟨b, off + k, none⟩ = some (.slice A2 2 c2) := fun d os => cell_regrown x2 d os
            have HSk := Lib.hid (show sumF (fun k => f (atP l i) (atP l k)) (k + 1) = sumF (fun k => f (atP l i) (atP l k)) k + f (atP l i) (atP l k) from rfl)
            have bd := HBd.out i k (by omega) (by omega) (.inl hlt)
            have cb := HCb.out i k hlt (by omega)
            have hN : f (atP l i) (atP l k) = 2 * (if crs (atP l i) (atP l k) < -crs (atP l i) (atP l k) then -crs (atP l i) (atP l k) else crs (atP l i) (atP l k)) := by
              rw [EF.out]; dsimp only; unfold abC; split <;> split <;> omega
            have hcb : -162 ≤ crs (atP l i) (atP l k) ∧ crs (atP l i) (atP l k) ≤ 162 := cb.1
            obtain ⟨ne, ene⟩ : ∃ ne, ne = f (atP l i) (atP l k) := ⟨_, rfl⟩
            rw [← ene] at HSk hN
            generalize crs (atP l i) (atP l k) = z at *
            obtain ⟨S, eS⟩ : ∃ S, S = prS f l i + sumF (fun k => f (atP l i) (atP l k)) k := ⟨_, rfl⟩
            rw [← eS] at bd ⊢
            have ES := Lib.hid eS
            have HB2 := Lib.hid hb
            have v0 : IntKind.i64.wrap (-z) = -z := wrap_is rfl (by omega) (by omega)
            by_cases hz : z < -z
            · rw [if_pos hz] at hN
              have v1 : IntKind.i64.wrap (2 * (-z)) = 2 * (-z) := wrap_is rfl (by omega) (by omega)
              have v2 : IntKind.i64.wrap (S + 2 * (-z)) = S + 2 * (-z) := wrap_is rfl (by omega) (by omega)
              have HN := Lib.hid hN
              have mx : max z (-z) = -z := by omega
              clear hX x1 x2 hb eS bd cb hN hcb ene
              go_wp2_with fail
              refine wp_region_quiet_below (by kernel_rfl) (by kernel_rfl) ?_
              repeat (go_big_quiet_step (with_reducible exact cE _ _))
              refine wpQuiet_nil ?_
              intro _ hw'
              obtain ⟨⟨dq, osq⟩, hw''⟩ := hw'
              subst hw''
              have bq := below_regrown wr dq osq
              generalize Go.Sort.grow (redrawn wr dq) osq = wq at bq ⊢
              go_wp2_with fail
              go_roundw
              case rel => exact ⟨k + 1, by omega, by go_num, by rw [HSk.out, HN.out, ES.out]; congr 1; omega, HB2.out.trans (bq.mono HB2.out.size)⟩
              case measure => simp [intOf]; omega
            · rw [if_neg hz] at hN
              have v1 : IntKind.i64.wrap (2 * z) = 2 * z := wrap_is rfl (by omega) (by omega)
              have v2 : IntKind.i64.wrap (S + 2 * z) = S + 2 * z := wrap_is rfl (by omega) (by omega)
              have HN := Lib.hid hN
              have mx : max z (-z) = z := by omega
              clear hX x1 x2 hb eS bd cb hN hcb ene
              go_wp2_with fail
              refine wp_region_quiet_below (by kernel_rfl) (by kernel_rfl) ?_
              repeat (go_big_quiet_step (with_reducible exact cE _ _))
              refine wpQuiet_nil ?_
              intro _ hw'
              obtain ⟨⟨dq, osq⟩, hw''⟩ := hw'
              subst hw''
              have bq := below_regrown wr dq osq
              generalize Go.Sort.grow (redrawn wr dq) osq = wq at bq ⊢
              go_wp2_with fail
              go_roundw
              case rel => exact ⟨k + 1, by omega, by go_num, by rw [HSk.out, HN.out, ES.out]; congr 1; omega, HB2.out.trans (bq.mono HB2.out.size)⟩
              case measure => simp [intOf]; omega
          · obtain rfl : k = i := by omega
            go_wp2_with fail
            go_roundw
            case rel => exact ⟨k + 1, by omega, by go_num, by rw [HSm.out], hb⟩
            case measure => simp [intOf]; omega
      · obtain rfl : i = n := by omega
        go_wp2_with fail
        refine bodyPost_ret (results_tmp2 rfl _ _ _) rfl ?_
        exact ⟨rfl, hb⟩
end Go.Proofs.Ythpgenkdiokpeaa
