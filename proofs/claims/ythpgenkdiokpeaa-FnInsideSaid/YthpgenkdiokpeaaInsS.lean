/- The model's points inside, asked one by one. -/
import Derived.Test.YthpgenkdiokpeaaPathI6
import Derived.Deep.RegionLaw
import Derived.StillTailTactics
import Derived.Deep.DeepCutAuto
namespace Go.Proofs.Ythpgenkdiokpeaa
open Go.RowKit Go.Sort Go.Lib

/-- To the left of the first k steps. -/
def lfN (l : List Pt) (q : Pt) (k : Nat) : Bool := (List.range k).all fun i => decide (0 < crs (atP l i) (subP q (cor l i)))
theorem lfN_zero (l : List Pt) (q : Pt) : lfN l q 0 = true := rfl
theorem lfN_succ (l : List Pt) (q : Pt) (k : Nat) : lfN l q (k + 1) = (lfN l q k && decide (0 < crs (atP l k) (subP q (cor l k)))) := by
  unfold lfN
  rw [List.range_succ, List.all_append]
  simp
theorem lfN_all (l : List Pt) (q : Pt) : lfN l q l.length = lftB l q := rfl
theorem lfN_false {l : List Pt} {q : Pt} {k n : Nat} (h : lfN l q k = false) (hk : k ≤ n) : lfN l q n = false := by
  cases e : lfN l q n with
  | false => rfl
  | true =>
    unfold lfN at e h
    rw [List.all_eq_true] at e
    rw [List.all_eq_true.2 (fun i hi => e i (by rw [List.mem_range] at hi ⊢; omega))] at h
    cases h
theorem row_made (w : World) (x y : Int) : RowBlk (w.alloc (.cells #[.int .i64 x, .int .i64 y] 3)).drew w.heap.size [x, y] := (RowBlk.made w [x, y] (by simp)).kept (grown_of_below ((Below.refl _ _).drew)) (by simp)
def allI (l : List Pt) : Int := ((allPt l : Nat) : Int)

set_option maxRecDepth 100000 in
set_option maxHeartbeats 8000000 in
theorem specPathInsideAll_any (A : Option Addr) (n c : Nat) (L : List (List Int)) (w : World) (h : RdM w A n L) (hs : SmallM L) :
    Calls Try.prog 61 #[.slice A n c] w fun e w' => e = .returned (.tuple #[.int .i64 (ifG L allI), .bool (goodB L)]) ∧ Below w.heap.size w w' := by
  have hI := l6sGood_any A n c L w h hs
  cases hp : goodB L with
  | false =>
    rw [ifG_no _ hp]
    rw [hp] at hI
    clear h hs hp
    go_enter Try.func61, Try.ntmps61
    go_wp2_with fail
    refine hI.mono ?_
    rintro e w1 ⟨rfl, b1⟩
    go_wp2_with fail
    refine bodyPost_ret (results_tmp2 rfl _ _ _) rfl ?_
    exact ⟨rfl, b1⟩
  | true =>
    rw [ifG_yes _ hp]
    rw [hp] at hI
    have hpb : pathB L = true := by unfold goodB at hp; rw [Bool.and_eq_true] at hp; exact hp.1
    have HK := Lib.hid (fun W (hW : Below w.heap.size w W) => l6sCorners_any A n c L W (h.same hW) hpb)
    obtain ⟨P, hst⟩ := pathB_true hpb
    have hl : (ptsL L).length = n := by simp [h.1]
    have h8 := P.hi
    rw [hl] at h8
    have HRL := Lib.hid h
    have HST := Lib.hid (fun i (hi : i < n) => (show (rowL L i).length = 2 ∧ rowPt (rowL L i) = atP (ptsL L) i from ⟨(stepRow_pt (hst i (by rw [h.1]; exact hi))).2, (ptsL_at (by rw [h.1]; exact hi)).symm⟩))
    have HSP := Lib.hid (fun i (hi : i < n) => P.at_ (i := i) (by omega))
    have HBD := Lib.hid (fun i (hi : i < n) => P.bd72 (k := i) (by omega))
    generalize ptsL L = l at *
    have HG := Lib.hid (fun i j => (show gridN (insF l) (-72) (-72) i j ≤ j * i from gridN_le _ _ _ _ _))
    have HLN := Lib.hid hl
    have HALL := Lib.hid (show allI l = ((gridN (insF l) (-72) (-72) 145 145 : Nat) : Int) from rfl)
    obtain ⟨z, ez⟩ : ∃ z, z = allI l := ⟨_, rfl⟩
    rw [← ez] at HALL ⊢
    clear h hs hp hpb P hl hst ez
    go_enter Try.func61, Try.ntmps61
    go_wp2_with fail
    refine hI.mono ?_
    rintro e w1 ⟨rfl, b1⟩
    have B1 := Lib.hid b1
    clear hI b1
    go_wp2_with fail
    refine (HK.out _ B1.out).mono ?_
    rintro e w2 ⟨A2, c2, rfl, ⟨gs, o2⟩, b2⟩
    have B2 := Lib.hid (below_then B1.out b2)
    have HR := Lib.hid o2.rd
    have HRP := Lib.hid (HRL.out.same B2.out)
    clear o2 b2 B1 HK HRL
    go_wp2_with fail
    go_loopw [5, 6, 7, 8, 9] (fun s x _ _ _ wr => ∃ i : Nat, i ≤ 145 ∧ x = .int .i64 (-72 + (i : Int)) ∧ s = .int .i64 ((gridN (insF l) (-72) (-72) 145 i : Nat) : Int) ∧ Below w2.heap.size w2 wr) (fun _ x _ _ _ _ => (73 - intOf x).toNat)
    case atStart => exact ⟨0, by omega, rfl, rfl, Below.refl _ _⟩
    case round =>
      obtain ⟨i, hi, rfl, rfl, hb⟩ := hrel
      by_cases hlt : i < 145
      · have hg := HG.out 145 i
        have hgs : gridN (insF l) (-72) (-72) 145 i ≤ 21025 := Nat.le_trans hg (by omega)
        have EG := Lib.hid (show gridN (insF l) (-72) (-72) 145 (i + 1) = gridN (insF l) (-72) (-72) 145 i + numN (fun j => insF l (-72 + (i : Int)) (-72 + (j : Int))) 145 from rfl)
        generalize gridN (insF l) (-72) (-72) 145 i = G at *
        obtain ⟨x, ex⟩ : ∃ x, x = -72 + (i : Int) := ⟨_, rfl⟩
        have EX := Lib.hid ex
        rw [← ex] at EG ⊢
        have hx : -72 ≤ x ∧ x ≤ 72 := by omega
        have d1 : decide (x ≤ 72) = true := by simp; omega
        have HLT := Lib.hid hlt
        clear hg ex hlt hi
        go_wp2_with fail
        go_loopw [5, 7, 8, 9] (fun s y _ _ wr => ∃ j : Nat, j ≤ 145 ∧ y = .int .i64 (-72 + (j : Int)) ∧ s = .int .i64 ((G + numN (fun j => insF l x (-72 + (j : Int))) j : Nat) : Int) ∧ Below w2.heap.size w2 wr) (fun _ y _ _ _ => (73 - intOf y).toNat)
        case atStart => exact ⟨0, by omega, rfl, rfl, hb⟩
        case round =>
          clear hb
          obtain ⟨j, hj, rfl, rfl, hb⟩ := hrel
          by_cases hlt : j < 145
          · have hns := numN_le (fun j => insF l x (-72 + (j : Int))) j
            have EN := Lib.hid (show numN (fun j => insF l x (-72 + (j : Int))) (j + 1) = numN (fun j => insF l x (-72 + (j : Int))) j + (if insF l x (-72 + (j : Int)) then 1 else 0) from rfl)
            generalize numN (fun j => insF l x (-72 + (j : Int))) j = M at *
            obtain ⟨y, ey⟩ : ∃ y, y = -72 + (j : Int) := ⟨_, rfl⟩
            have EY := Lib.hid ey
            rw [← ey] at EN ⊢
            have hy : -72 ≤ y ∧ y ≤ 72 := by omega
            have d2 : decide (y ≤ 72) = true := by simp; omega
            have HLT2 := Lib.hid hlt
            have HB := Lib.hid hb
            clear ey hlt hj hb
            go_wp2_with fail
            go_loopw [8, 9] (fun b k wr => ∃ k' : Nat, k' ≤ n ∧ k = .int .i64 k' ∧ b = .bool (lfN l (x, y) k') ∧ Below w2.heap.size w2 wr) (fun _ k _ => n - (intOf k).toNat)
            case atStart => exact ⟨0, Nat.zero_le _, rfl, by rw [lfN_zero], HB.out⟩
            case round =>
              clear HB
              obtain ⟨k, hk, rfl, rfl, hb⟩ := hrel
              have HBR := Lib.hid hb
              cases hlf : lfN l (x, y) k with
              | true =>
                by_cases hlt : k < n
                · obtain ⟨b, off, rfl, hbl, hc⟩ := HRP.out.2 (by omega)
                  obtain ⟨b2, off2, rfl, hbl2, hc2⟩ := HR.out.2 (by omega)
                  obtain ⟨A1, c1, x1, r1⟩ := hc k hlt
                  obtain ⟨A3, c3, x3, r3⟩ := hc2 k hlt
                  rw [rowsOf_at (by rw [corL_len, HLN.out]; exact hlt), corL_at (by rw [HLN.out]; exact hlt)] at x3 r3
                  obtain ⟨b3, off3, rfl, hbl3, hc3⟩ := r3.2 (by simp)
                  have hs1 := HST.out k hlt
                  rw [hs1.1] at x1 r1
                  have k1 := (hb.cell (p := ⟨b, off + k, none⟩) hbl).trans x1
                  have k2 := (hb.cell (p := ⟨b2, off2 + k, none⟩) hbl2).trans x3
                  have k3 := (hb.cell (p := ⟨b3, off3 + 0, none⟩) hbl3).trans (hc3 0 (by simp))
                  have k4 := (hb.cell (p := ⟨b3, off3 + 1, none⟩) hbl3).trans (hc3 1 (by simp))
                  rw [Nat.add_zero] at k3
                  have hr2 : (ptRow (cor l k)).length = 2 := rfl
                  simp only [hr2] at k2
                  have q0 : (ptRow (cor l k)).getD 0 0 = (cor l k).1 := rfl
                  have q1 : (ptRow (cor l k)).getD 1 0 = (cor l k).2 := rfl
                  rw [q0] at k3
                  rw [q1] at k4
                  have hbd := HBD.out k hlt
                  have hsp := HSP.out k hlt
                  have ES := Lib.hid (lfN_succ l (x, y) k)
                  rw [hlf, Bool.true_and] at ES
                  have HC := Lib.hid (fun (W : World) (hW : Below w2.heap.size w2 W) (g' : Nat) (h' : RowBlk W g' [x - (cor l k).1, y - (cor l k).2]) => (show Calls Try.prog 123 #[.slice A1 2 c1, .slice (some ⟨g', 0, none⟩) 2 2] W fun e w' => e = .returned (.int .i64 (crs (atP l k) (subP (x, y) (cor l k)))) ∧ Below W.heap.size W w' from by
                    have hc := l6sCross_any A1 (some ⟨g', 0, none⟩) c1 2 (rowL L k) [x - (cor l k).1, y - (cor l k).2] W (r1.same hW) h'.rd (fun u v hu hv => by
                      have e1 : (rowL L k).getD 0 0 = (atP l k).1 := by rw [← hs1.2]
                      have e2 : (rowL L k).getD 1 0 = (atP l k).2 := by rw [← hs1.2]
                      rw [e1, e2] at hu
                      have hv' : v = x - (cor l k).1 ∨ v = y - (cor l k).2 := hv
                      have hu9 : -9 ≤ u ∧ u ≤ 9 := by
                        have h1 := hsp.1
                        have h2 := hsp.2.1
                        rcases hu with rfl | rfl <;> assumption
                      have hv9 : -144 ≤ v ∧ v ≤ 144 := by rcases hv' with rfl | rfl <;> omega
                      have := mul_sq hu9.1 hu9.2 hv9.1 hv9.2
                      omega)
                    rw [hs1.2] at hc
                    exact hc))
                  have hcb : -1000000 ≤ crs (atP l k) (subP (x, y) (cor l k)) ∧ crs (atP l k) (subP (x, y) (cor l k)) ≤ 1000000 := by
                    have h1 := hsp.1
                    have h2 := hsp.2.1
                    have := crs_bd (a := atP l k) (b := subP (x, y) (cor l k)) (A := 9) (B := 144) h1 h2 (by simp only [subP]; omega) (by simp only [subP]; omega)
                    omega
                  generalize crs (atP l k) (subP (x, y) (cor l k)) = cr at *
                  generalize (cor l k).1 = cx at *
                  generalize (cor l k).2 = cy at *
                  have v1 : IntKind.i64.wrap (x - cx) = x - cx := wrap_is rfl (by omega) (by omega)
                  have v2 : IntKind.i64.wrap (y - cy) = y - cy := wrap_is rfl (by omega) (by omega)
                  have g1 : (k : Int) < (n : Int) := by omega
                  have HLT3 := Lib.hid hlt
                  have HHR := Lib.hid (row_made wr (x - cx) (y - cy))
                  have k5 : (wr.alloc (.cells #[.int .i64 (x - cx), .int .i64 (y - cy)] 3)).drew.cell? ⟨b, off + k, none⟩ = some (.slice A1 2 c1) := ((below_alloc (Below.refl wr.heap.size wr) (.cells #[.int .i64 (x - cx), .int .i64 (y - cy)] 3)).drew.cell (p := ⟨b, off + k, none⟩) (Nat.lt_of_lt_of_le hbl HBR.out.size)).trans k1
                  clear hb hc hc2 x1 r1 x3 r3 hc3 hs1 hbd hsp q0 q1 hr2 hcb hlf hlt
                  go_wp2_with fail
                  have HB1 := Lib.hid ((below_alloc (Below.refl wr.heap.size wr) (.cells #[.int .i64 (x - cx), .int .i64 (y - cy)] 3)).drew)
                  have HCK := Lib.hid (fun (W : World) (hW : Below wr.heap.size wr W) => (show W.cell? ⟨b, off + k, none⟩ = some (.slice A1 2 c1) ∧ W.cell? ⟨b2, off2 + k, none⟩ = some (.slice (some ⟨b3, off3, none⟩) 2 c3) ∧ W.cell? ⟨b3, off3, none⟩ = some (.int .i64 cx) ∧ W.cell? ⟨b3, off3 + 1, none⟩ = some (.int .i64 cy) from
                    ⟨(hW.cell (p := ⟨b, off + k, none⟩) (Nat.lt_of_lt_of_le hbl HBR.out.size)).trans k1, (hW.cell (p := ⟨b2, off2 + k, none⟩) (Nat.lt_of_lt_of_le hbl2 HBR.out.size)).trans k2, (hW.cell (p := ⟨b3, off3, none⟩) (Nat.lt_of_lt_of_le hbl3 HBR.out.size)).trans k3, (hW.cell (p := ⟨b3, off3 + 1, none⟩) (Nat.lt_of_lt_of_le hbl3 HBR.out.size)).trans k4⟩))
                  clear k5
                  go_region_held3 (fun w' => w'.cell? ⟨b, off + k, none⟩ = some (.slice A1 2 c1) ∧ w'.cell? ⟨b2, off2 + k, none⟩ = some (.slice (some ⟨b3, off3, none⟩) 2 c3) ∧ w'.cell? ⟨b3, off3, none⟩ = some (.int .i64 cx) ∧ w'.cell? ⟨b3, off3 + 1, none⟩ = some (.int .i64 cy))
                    (first | go_keep | exact HCK.out _ HB1.out | exact HCK.out _ (below_then HB1.out b7))
                    (first
                      | (go_at_call 123; refine (HC.out _ (HBR.out.trans (HB1.out.mono HBR.out.size)) _ HHR.out).mono ?_; rintro e w7 ⟨rfl, b7⟩))
                  have HB7 := Lib.hid (HBR.out.trans ((below_then HB1.out b7).mono HBR.out.size))
                  clear b7 k1 k2 k3 k4
                  go_wp2_with fail
                  go_roundw
                  case rel => first | exact ⟨k + 1, HLT3.out, by go_num, by rw [ES.out], HB7.out⟩ | ((repeat apply Exists.intro); exact ⟨⟨k + 1, HLT3.out, by go_num, by rw [ES.out], HB7.out⟩, rfl⟩)
                  case measure => have := HLT3.out; simp [intOf]; omega
                · obtain rfl : k = n := by omega
                  have hin : insF l x y = true := by rw [← hlf, ← HLN.out, lfN_all]; rfl
                  have EN2 := EN.out
                  rw [hin, if_pos rfl] at EN2
                  have EN3 := Lib.hid EN2
                  clear hlf hin EN2 EN hb
                  have v5 : IntKind.i64.wrap ((G : Int) + (M : Int) + 1) = (G : Int) + (M : Int) + 1 := wrap_is rfl (by omega) (by have := HLT2.out; omega)
                  have v6 : IntKind.i64.wrap (y + 1) = y + 1 := wrap_is rfl (by omega) (by omega)
                  go_wp2_with fail
                  go_roundw
                  case rel => first | exact ⟨j + 1, HLT2.out, by have := EY.out; congr 1; omega, by (rw [EN3.out]; first | done | (congr 1; done) | (congr 1; omega)), HBR.out⟩ | ((repeat apply Exists.intro); exact ⟨⟨j + 1, HLT2.out, by have := EY.out; congr 1; omega, by (rw [EN3.out]; first | done | (congr 1; done) | (congr 1; omega)), HBR.out⟩, rfl⟩)
                  case measure => simp [intOf]; omega
              | false =>
                have hin : insF l x y = false := by rw [← lfN_false (l := l) (q := (x, y)) (n := n) hlf (by omega), ← HLN.out, lfN_all]; rfl
                have EN2 := EN.out
                rw [hin] at EN2
                have EN3 := Lib.hid (show _ = M from EN2)
                clear hlf hin EN2 EN hb
                have v6 : IntKind.i64.wrap (y + 1) = y + 1 := wrap_is rfl (by omega) (by omega)
                by_cases hlt : k < n
                · go_wp2_with fail
                  go_roundw
                  case rel => first | exact ⟨j + 1, HLT2.out, by have := EY.out; congr 1; omega, by rw [EN3.out], HBR.out⟩ | ((repeat apply Exists.intro); exact ⟨⟨j + 1, HLT2.out, by have := EY.out; congr 1; omega, by rw [EN3.out], HBR.out⟩, rfl⟩)
                  case measure => simp [intOf]; omega
                · go_wp2_with fail
                  go_roundw
                  case rel => first | exact ⟨j + 1, HLT2.out, by have := EY.out; congr 1; omega, by rw [EN3.out], HBR.out⟩ | ((repeat apply Exists.intro); exact ⟨⟨j + 1, HLT2.out, by have := EY.out; congr 1; omega, by rw [EN3.out], HBR.out⟩, rfl⟩)
                  case measure => simp [intOf]; omega
          · obtain rfl : j = 145 := by omega
            have d2 : decide ((-72 : Int) + ((145 : Nat) : Int) ≤ 72) = false := by decide
            have v6 : IntKind.i64.wrap (x + 1) = x + 1 := wrap_is rfl (by omega) (by omega)
            have HBR := Lib.hid hb
            clear hb
            go_wp2_with fail
            go_roundw
            case rel => first | exact ⟨i + 1, HLT.out, by have := EX.out; congr 1; omega, by rw [EG.out], HBR.out⟩ | ((repeat apply Exists.intro); exact ⟨⟨i + 1, HLT.out, by have := EX.out; congr 1; omega, by rw [EG.out], HBR.out⟩, rfl⟩)
            case measure => simp [intOf]; omega
      · obtain rfl : i = 145 := by omega
        have d2 : decide ((-72 : Int) + ((145 : Nat) : Int) ≤ 72) = false := by decide
        have HBR := Lib.hid (below_then B2.out hb)
        rw [← HALL.out]
        clear hb
        go_wp2_with fail
        refine bodyPost_ret (results_tmp2 rfl _ _ _) rfl ?_
        exact ⟨rfl, HBR.out⟩
end Go.Proofs.Ythpgenkdiokpeaa
