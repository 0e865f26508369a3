/- The program's sort by directions. -/
import Derived.Test.YtdnegamminhbfaaOrdI1
import Derived.Test.YtdnegamminhbfaaOrdP
namespace Go.Proofs.Ytdnegamminhbfaa
open Go.RowKit Go.Sort Go.Lib

set_option maxRecDepth 100000 in
set_option maxHeartbeats 1000000 in
theorem below_any (x y : Int) (w : World) :
    Calls Try.prog 129 #[vecX x y] w fun e w' => e = .returned (.bool (dnB (x, y))) ∧ Below w.heap.size w w' := by
  have hP := World.alloc_heap_new w (vecO x y)
  obtain ⟨k0, k1, _, _⟩ := pr_cells hP
  have b := below_alloc (Below.refl w.heap.size w) (vecO x y)
  clear hP
  by_cases hy : y < 0
  · have e : dnB (x, y) = true := by simp [dnB, hy]
    rw [e]
    have d1 : decide (y < 0) = true := by simpa using hy
    clear hy e
    go_enter Try.func129, Try.ntmps129
    go_wp2_with fail
    go_ret
    exact ⟨rfl, b⟩
  · have d1 : decide (y < 0) = false := by simpa using hy
    by_cases h0 : y = 0
    · subst h0
      have e : dnB (x, 0) = decide (x < 0) := by simp [dnB]
      rw [e]
      clear hy e
      go_enter Try.func129, Try.ntmps129
      go_wp2_with fail
      go_ret
      exact ⟨rfl, b⟩
    · have e : dnB (x, y) = false := by simp [dnB, hy, h0]
      rw [e]
      have d2 : (y == 0) = false := by simpa using h0
      clear hy e h0
      go_enter Try.func129, Try.ntmps129
      go_wp2_with fail
      go_ret
      exact ⟨rfl, b⟩

set_option maxRecDepth 100000 in
set_option maxHeartbeats 2000000 in
theorem byDirection_any (x y u v : Int) (w : World) (h : ∀ a b : Int, (a = x ∨ a = y) → (b = u ∨ b = v) → -1000000 ≤ a * b ∧ a * b ≤ 1000000) :
    Calls Try.prog 83 #[vecX x y, vecX u v] w fun e w' => e = .returned (.int .i64 (cmpP (x, y) (u, v))) ∧ Below w.heap.size w w' := by
  have hB1 := fun W => below_any x y W
  have hB2 := fun W => below_any u v W
  have hC := fun W => cross_any u v x y W (fun a b ha hb => by have := h b a hb ha; rw [Int.mul_comm]; exact this)
  have hP := al_old (o' := vecO u v) (World.alloc_heap_new w (vecO x y))
  have hQ := al_new2 w (vecO x y) (vecO u v)
  have HP := Lib.hid (fun W' (hb : Below ((w.alloc (vecO x y)).alloc (vecO u v)).heap.size ((w.alloc (vecO x y)).alloc (vecO u v)) W') => pr_cells ((hb.block _ (Array.getElem?_eq_some_iff.1 hP).1).trans hP))
  have HQ := Lib.hid (fun W' (hb : Below ((w.alloc (vecO x y)).alloc (vecO u v)).heap.size ((w.alloc (vecO x y)).alloc (vecO u v)) W') => pr_cells ((hb.block _ (Array.getElem?_eq_some_iff.1 hQ).1).trans hQ))
  obtain ⟨k0, k1, _, _⟩ := pr_cells hP
  obtain ⟨k2, k3, _, _⟩ := pr_cells hQ
  have HBW := Lib.hid (below_alloc (below_alloc (Below.refl w.heap.size w) (vecO x y)) (vecO u v))
  have BA := Below.refl ((w.alloc (vecO x y)).alloc (vecO u v)).heap.size ((w.alloc (vecO x y)).alloc (vecO u v))
  clear hP hQ h
  have HZ := Lib.hid (show cmpP (x, y) (u, v) = if dnB (x, y) = dnB (u, v) then crs (u, v) (x, y) else if dnB (x, y) then 1 else -1 from rfl)
  rw [HZ.out]
  generalize crs (u, v) (x, y) = z at *
  have HC := Lib.hid hC
  clear hC
  cases h1 : dnB (x, y) <;> cases h2 : dnB (u, v)
  · rw [h1] at hB1
    rw [h2] at hB2
    rw [if_pos rfl]
    have HB1 := Lib.hid hB1
    have HB2 := Lib.hid hB2
    clear hB1 hB2 h1 h2
    go_enter Try.func83, Try.ntmps83
    go_wp2_with fail
    refine (HB1.out _).mono ?_
    rintro e w1 ⟨rfl, b1⟩
    replace BA := BA.trans (b1.mono BA.size)
    obtain ⟨j0, j1, _, _⟩ := HP.out _ BA
    obtain ⟨j2, j3, _, _⟩ := HQ.out _ BA
    clear b1
    go_wp2_with fail
    refine (HB2.out _).mono ?_
    rintro e w1 ⟨rfl, b1⟩
    replace BA := BA.trans (b1.mono BA.size)
    obtain ⟨j0, j1, _, _⟩ := HP.out _ BA
    obtain ⟨j2, j3, _, _⟩ := HQ.out _ BA
    clear b1
    go_wp2_with fail
    refine (HC.out _).mono ?_
    rintro e w1 ⟨rfl, b1⟩
    replace BA := BA.trans (b1.mono BA.size)
    go_wp2_with fail
    go_ret
    exact ⟨rfl, below_then HBW.out BA⟩
  · rw [h1] at hB1
    rw [h2] at hB2
    rw [if_neg (by simp), if_neg (by simp)]
    have HB1 := Lib.hid hB1
    have HB2 := Lib.hid hB2
    clear hB1 hB2 h1 h2
    go_enter Try.func83, Try.ntmps83
    go_wp2_with fail
    refine (HB1.out _).mono ?_
    rintro e w1 ⟨rfl, b1⟩
    replace BA := BA.trans (b1.mono BA.size)
    obtain ⟨j0, j1, _, _⟩ := HP.out _ BA
    obtain ⟨j2, j3, _, _⟩ := HQ.out _ BA
    clear b1
    go_wp2_with fail
    refine (HB2.out _).mono ?_
    rintro e w1 ⟨rfl, b1⟩
    replace BA := BA.trans (b1.mono BA.size)
    obtain ⟨j0, j1, _, _⟩ := HP.out _ BA
    obtain ⟨j2, j3, _, _⟩ := HQ.out _ BA
    clear b1
    go_wp2_with fail
    refine (HB1.out _).mono ?_
    rintro e w1 ⟨rfl, b1⟩
    replace BA := BA.trans (b1.mono BA.size)
    obtain ⟨j0, j1, _, _⟩ := HP.out _ BA
    obtain ⟨j2, j3, _, _⟩ := HQ.out _ BA
    clear b1
    go_wp2_with fail
    go_ret
    exact ⟨rfl, below_then HBW.out BA⟩
  · rw [h1] at hB1
    rw [h2] at hB2
    rw [if_neg (by simp), if_pos rfl]
    have HB1 := Lib.hid hB1
    have HB2 := Lib.hid hB2
    clear hB1 hB2 h1 h2
    go_enter Try.func83, Try.ntmps83
    go_wp2_with fail
    refine (HB1.out _).mono ?_
    rintro e w1 ⟨rfl, b1⟩
    replace BA := BA.trans (b1.mono BA.size)
    obtain ⟨j0, j1, _, _⟩ := HP.out _ BA
    obtain ⟨j2, j3, _, _⟩ := HQ.out _ BA
    clear b1
    go_wp2_with fail
    refine (HB2.out _).mono ?_
    rintro e w1 ⟨rfl, b1⟩
    replace BA := BA.trans (b1.mono BA.size)
    obtain ⟨j0, j1, _, _⟩ := HP.out _ BA
    obtain ⟨j2, j3, _, _⟩ := HQ.out _ BA
    clear b1
    go_wp2_with fail
    go_ret
    exact ⟨rfl, below_then HBW.out BA⟩
  · rw [h1] at hB1
    rw [h2] at hB2
    rw [if_pos rfl]
    have HB1 := Lib.hid hB1
    have HB2 := Lib.hid hB2
    clear hB1 hB2 h1 h2
    go_enter Try.func83, Try.ntmps83
    go_wp2_with fail
    refine (HB1.out _).mono ?_
    rintro e w1 ⟨rfl, b1⟩
    replace BA := BA.trans (b1.mono BA.size)
    obtain ⟨j0, j1, _, _⟩ := HP.out _ BA
    obtain ⟨j2, j3, _, _⟩ := HQ.out _ BA
    clear b1
    go_wp2_with fail
    refine (HB2.out _).mono ?_
    rintro e w1 ⟨rfl, b1⟩
    replace BA := BA.trans (b1.mono BA.size)
    obtain ⟨j0, j1, _, _⟩ := HP.out _ BA
    obtain ⟨j2, j3, _, _⟩ := HQ.out _ BA
    clear b1
    go_wp2_with fail
    refine (HB2.out _).mono ?_
    rintro e w1 ⟨rfl, b1⟩
    replace BA := BA.trans (b1.mono BA.size)
    obtain ⟨j0, j1, _, _⟩ := HP.out _ BA
    obtain ⟨j2, j3, _, _⟩ := HQ.out _ BA
    clear b1
    go_wp2_with fail
    refine (HB1.out _).mono ?_
    rintro e w1 ⟨rfl, b1⟩
    replace BA := BA.trans (b1.mono BA.size)
    obtain ⟨j0, j1, _, _⟩ := HP.out _ BA
    obtain ⟨j2, j3, _, _⟩ := HQ.out _ BA
    clear b1
    go_wp2_with fail
    refine (HC.out _).mono ?_
    rintro e w1 ⟨rfl, b1⟩
    replace BA := BA.trans (b1.mono BA.size)
    go_wp2_with fail
    go_ret
    exact ⟨rfl, below_then HBW.out BA⟩

/-- The row of the sort. -/
def SrtV (w : World) (B n c g : Nat) (q : List Pt) (wr : World) : Prop := OwnV wr B (some ⟨g, 0, none⟩) n c q ∧ w.grownBy wr (some g)
theorem SrtV.dr {w wr : World} {B n c g : Nat} {q : List Pt} (h : SrtV w B n c g q wr) : SrtV w B n c g q wr.drew := ⟨h.1, h.2.os, h.2.tape, h.2.output, h.2.size, h.2.block⟩
theorem SrtV.below {w wr w' : World} {B n c g : Nat} {q : List Pt} (h : SrtV w B n c g q wr) (hb : Below wr.heap.size wr w') : SrtV w B n c g q w' :=
  ⟨h.1.same hb, h.2.trans ⟨hb.os, hb.tape, hb.output, hb.size, fun k hk _ => hb.block k hk⟩⟩
theorem SrtV.swap {w wr : World} {B n c g j k : Nat} {q : List Pt} (h : SrtV w B n c g q wr) (hj : j < n) (hk : k < n) (a b : Pt) :
    SrtV w B n c g ((q.set j a).set k b) ((((wr.setCell ⟨g, j * 2, none⟩ (.int .i64 a.1)).setCell ⟨g, j * 2 + 1, none⟩ (.int .i64 a.2)).setCell ⟨g, k * 2, none⟩ (.int .i64 b.1)).setCell ⟨g, k * 2 + 1, none⟩ (.int .i64 b.2)) := by
  have s1 := h.1.stored hj a
  have s2 := s1.1.stored hk b
  exact ⟨s2.1, (h.2.trans s1.2).trans s2.2⟩

set_option maxRecDepth 100000 in
set_option maxHeartbeats 8000000 in
theorem insertV_any (g n c B : Nat) (l : List Pt) (w : World) (h : OwnV w B (some ⟨g, 0, none⟩) n c l) (h0 : 0 < n) (hn : n ≤ 1000) (hs : ∀ s ∈ l, stepP s) :
    Calls Try.prog 148 #[.slice (some ⟨g, 0, none⟩) n c, .int .i64 0, .int .i64 n, .func (.func 83) #[] #[]] w fun e w' => e = .returned (.tuple #[]) ∧ SrtV w B n c g (srt l) w' := by
  have HL := Lib.hid h.n
  have HS := Lib.hid hs
  have HO := Lib.hid (show SrtV w B n c g l w from ⟨h, World.grownBy.refl w _⟩)
  clear h hs
  go_enter Try.func148, Try.ntmps148
  go_wp2_with fail
  go_loopw [8, 9] (fun i _ wr => ∃ i' : Nat, 1 ≤ i' ∧ i' ≤ n ∧ i = .int .i64 i' ∧ SrtV w B n c g (curI l i') wr) (fun i _ _ => n - (intOf i).toNat)
  case atStart => exact ⟨1, Nat.le_refl _, h0, rfl, by rw [curI_one (by rw [HL.out]; exact h0)]; exact HO.out⟩
  case round =>
    obtain ⟨i, hi1, hi, rfl, hq⟩ := hrel
    by_cases hlt : i < n
    · have hil : i < l.length := by rw [HL.out]; exact hlt
      have HQ := Lib.hid (show SrtV w B n c g (curJ l i i) wr by rw [curJ_start hil]; exact hq)
      have HIL := Lib.hid hil
      clear hq hil
      go_wp2_with fail
      go_loopw [9] (fun j wr => ∃ j' : Nat, j' ≤ i ∧ j = .int .i64 j' ∧ SrtV w B n c g (curJ l i j') wr ∧ kP (atP l i) (srt (l.take i)) j' = kP (atP l i) (srt (l.take i)) i) (fun j _ => (intOf j).toNat)
      case atStart => exact ⟨i, Nat.le_refl _, rfl, HQ.out, rfl⟩
      case round =>
        obtain ⟨j, hj, rfl, hq, hk⟩ := hrel
        by_cases hj0 : j = 0
        · subst hj0
          have HD := Lib.hid (show SrtV w B n c g (curI l (i + 1)) wr by rw [← curJ_done HIL.out hk.symm]; exact hq)
          clear hq hk
          go_wp2_with fail
          refine wp_region_quiet_below (by kernel_rfl) (by kernel_rfl) ?_
          repeat (go_big_quiet_step (fail))
          refine wpQuiet_nil ?_
          intro _ hw'
          obtain ⟨⟨dq, osq⟩, hw''⟩ := hw'
          subst hw''
          have bq := below_regrown wr dq osq
          generalize Go.Sort.grow (redrawn wr dq) osq = wq at bq ⊢
          go_wp2_with fail
          go_roundw
          case rel =>
            first
              | exact ⟨i + 1, by omega, by omega, by go_num, HD.out.below bq⟩
              | ((repeat apply Exists.intro); exact ⟨⟨i + 1, by omega, by omega, by go_num, HD.out.below bq⟩, rfl⟩)
          case measure => simp [intOf]; omega
        · obtain ⟨k, hjk⟩ : ∃ k, j = k + 1 := ⟨j - 1, by omega⟩
          have a1 : atP (curJ l i j) j = atP l i := curJ_at HIL.out hj
          have a2 : atP (curJ l i j) k = atP (srt (l.take i)) k := curJ_lo HIL.out hj (by omega)
          obtain ⟨c1, c2⟩ := hq.1.cell j (by omega)
          obtain ⟨c3, c4⟩ := hq.1.cell k (by omega)
          rw [a1] at c1 c2
          rw [a2] at c3 c4
          have hm1 : atP l i ∈ l := by rw [atP_lt HIL.out]; exact List.getElem_mem _
          have hm2 : atP (srt (l.take i)) k ∈ l := srt_mem (by have := HIL.out; omega) (by omega)
          have hp1 := HS.out _ hm1
          have hp2 := HS.out _ hm2
          have hcmp := cmp_bef hp1.2.2 hp2.2.2
          have fr := fun m => hq.1.free m
          have hsw := curJ_swap (k := k) HIL.out (by omega)
          rw [← hjk] at hsw
          have hsq : ∀ a b : Int, (a = (atP l i).1 ∨ a = (atP l i).2) → (b = (atP (srt (l.take i)) k).1 ∨ b = (atP (srt (l.take i)) k).2) → -1000000 ≤ a * b ∧ a * b ≤ 1000000 := fun a b ha hb => by
            unfold stepP at hp1 hp2
            have := mul_sq (a := a) (b := b) (A := 9) (B := 9) (by rcases ha with rfl | rfl <;> omega) (by rcases ha with rfl | rfl <;> omega) (by rcases hb with rfl | rfl <;> omega) (by rcases hb with rfl | rfl <;> omega)
            omega
          have hD := fun W => byDirection_any (atP l i).1 (atP l i).2 (atP (srt (l.take i)) k).1 (atP (srt (l.take i)) k).2 W hsq
          have hZ : cmpP ((atP l i).1, (atP l i).2) ((atP (srt (l.take i)) k).1, (atP (srt (l.take i)) k).2) = cmpP (atP l i) (atP (srt (l.take i)) k) := rfl
          rw [hZ] at hD
          have HSW := Lib.hid (fun W (hW : SrtV w B n c g (curJ l i j) W) => (show SrtV w B n c g (curJ l i k) ((((W.setCell ⟨g, j * 2, none⟩ (.int .i64 (atP (srt (l.take i)) k).1)).setCell ⟨g, j * 2 + 1, none⟩ (.int .i64 (atP (srt (l.take i)) k).2)).setCell ⟨g, k * 2, none⟩ (.int .i64 (atP l i).1)).setCell ⟨g, k * 2 + 1, none⟩ (.int .i64 (atP l i).2)) from by
            have := hW.swap (j := j) (k := k) (by omega) (by omega) (atP (srt (l.take i)) k) (atP l i)
            rwa [hsw] at this))
          have kno := fun (hb : befB (atP l i) (atP (srt (l.take i)) k) = false) => kP_no (x := atP l i) (S := srt (l.take i)) (k := k) hb
          have kye := fun (hb : befB (atP l i) (atP (srt (l.take i)) k) = true) => kP_yes (x := atP l i) (S := srt (l.take i)) (k := k) hb
          rw [← hjk] at kno kye
          have HQ1 := Lib.hid hq
          have HK := Lib.hid hk
          have HNO := Lib.hid kno
          have HYE := Lib.hid kye
          have HJK := Lib.hid hjk
          have v1 : IntKind.i64.wrap ((j : Int) - 1) = (k : Int) := wrap_is (by omega) (by omega) (by omega)
          have d0 : decide (j > 0) = true := by simp; omega
          have d0' : decide ((j : Int) > 0) = true := by simp; omega
          have g1 : j < n := by omega
          have g2 : k < n := by omega
          have hkj : k < j := by omega
          have HS1 := Lib.hid (srt_mem (l := l) (i := i) (k := k) (by have := HIL.out; omega) (by omega))
          clear hq hk kno kye hZ hp1 hp2 hm1 hm2 a1 a2 hsq hsw hjk hj0
          generalize cmpP (atP l i) (atP (srt (l.take i)) k) = z at *
          generalize hbz : befB (atP l i) (atP (srt (l.take i)) k) = bz at *
          have HBZ := Lib.hid hbz
          clear hbz
          generalize (atP l i).1 = px at *
          generalize (atP l i).2 = py at *
          generalize (atP (srt (l.take i)) k).1 = qx at *
          generalize (atP (srt (l.take i)) k).2 = qy at *
          have cE : ∀ d os, Calls Try.prog 83 #[vecX px py, vecX qx qy] (grow (redrawn wr d) os) fun e w'' => e = .returned (.int .i64 z) ∧ ∃ p : Regrown, w'' = grow (redrawn wr p.d) p.os := fun d os => Calls.regrown_of (hD _)
          have y1 : ∀ d os, (grow (redrawn wr d) os).cell? ⟨g, j * 2, none⟩ = some (.int .i64 px) := fun d os => cell_regrown c1 d os
          have y2 : ∀ d os, (grow (redrawn wr d) os).cell? ⟨g, j * 2 + 1, none⟩ = some (.int .i64 py) := fun d os => cell_regrown c2 d os
          have y3 : ∀ d os, (grow (redrawn wr d) os).cell? ⟨g, k * 2, none⟩ = some (.int .i64 qx) := fun d os => cell_regrown c3 d os
          have y4 : ∀ d os, (grow (redrawn wr d) os).cell? ⟨g, k * 2 + 1, none⟩ = some (.int .i64 qy) := fun d os => cell_regrown c4 d os
          have HCC := Lib.hid (And.intro c1 (And.intro c2 (And.intro c3 (And.intro c4 fr))))
          clear c1 c2 c3 c4 fr hD
          cases bz with
          | false =>
            have HD := Lib.hid (show SrtV w B n c g (curI l (i + 1)) wr by
              have e1 := HNO.out (by first | rfl | trivial)
              rw [← curJ_done HIL.out (HK.out.symm.trans e1)]; exact HQ1.out)
            go_wp2_with fail
            refine wp_region_quiet_below (by kernel_rfl) (by kernel_rfl) ?_
            repeat (go_big_quiet_step (first | with_reducible exact cE _ _ | exact ⟨fun h => (by cases h), cE _ _⟩))
            refine wpQuiet_nil ?_
            intro _ hw'
            obtain ⟨⟨dq, osq⟩, hw''⟩ := hw'
            subst hw''
            have bq := below_regrown wr dq osq
            generalize Go.Sort.grow (redrawn wr dq) osq = wq at bq ⊢
            go_wp2_with fail
            go_roundw
            case rel =>
              first
                | exact ⟨i + 1, by omega, by omega, by go_num, HD.out.below bq⟩
                | ((repeat apply Exists.intro); exact ⟨⟨i + 1, by omega, by omega, by go_num, HD.out.below bq⟩, rfl⟩)
            case measure => simp [intOf]; omega
          | true =>
            go_wp2_with fail
            refine wp_region_quiet_below (by kernel_rfl) (by kernel_rfl) ?_
            repeat (go_big_quiet_step (first | with_reducible exact cE _ _ | exact ⟨fun h => (by cases h), cE _ _⟩))
            refine wpQuiet_nil ?_
            intro _ hw'
            obtain ⟨⟨dq, osq⟩, hw''⟩ := hw'
            subst hw''
            have bq := below_regrown wr dq osq
            generalize Go.Sort.grow (redrawn wr dq) osq = wq at bq ⊢
            go_wp2_with fail
            have hqq := HQ1.out.below bq
            have hgl := (hqq.1.row g rfl).2
            have HR := Lib.hid (HSW.out wq hqq)
            have fr := fun m => hqq.1.free m
            have f1 := fr (j * 2)
            have f2 := fr (j * 2 + 1)
            have f3 := fr (k * 2)
            have f4 := fr (k * 2 + 1)
            have hgw : g < wr.heap.size := (HQ1.out.1.row g rfl).2
            have z1 := (bq.cell (p := ⟨g, j * 2, none⟩) hgw).trans HCC.out.1
            have z2 := (bq.cell (p := ⟨g, j * 2 + 1, none⟩) hgw).trans HCC.out.2.1
            have z3 := (bq.cell (p := ⟨g, k * 2, none⟩) hgw).trans HCC.out.2.2.1
            have z4 := (bq.cell (p := ⟨g, k * 2 + 1, none⟩) hgw).trans HCC.out.2.2.2.1
            clear y1 y2 y3 y4 cE fr hqq
            go_region
            all_goals
              go_wp2_with fail
              go_roundw
              case rel =>
                have e1 := HYE.out (by first | rfl | trivial)
                first
                  | exact ⟨k, by omega, by go_num, HR.out.dr, e1.symm.trans HK.out⟩
                  | ((repeat apply Exists.intro); exact ⟨⟨k, by omega, by go_num, HR.out.dr, e1.symm.trans HK.out⟩, rfl⟩)
              case measure => simp [intOf]; omega
    · obtain rfl : i = n := by omega
      have HE := Lib.hid hq
      clear hq
      go_wp2_with fail
      go_end0
      have := HE.out
      rw [← HL.out, curI_all, HL.out] at this
      exact ⟨rfl, this⟩
end Go.Proofs.Ytdnegamminhbfaa
