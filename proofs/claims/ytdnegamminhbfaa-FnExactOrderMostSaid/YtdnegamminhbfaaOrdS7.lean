/- The model's greatest area of all orders. -/
import Derived.Test.YtdnegamminhbfaaRowX
import Derived.Test.YtdnegamminhbfaaOrdS1
import Derived.Test.YtdnegamminhbfaaOrdS3
import Derived.Test.YtdnegamminhbfaaOrdI9
import Derived.Deep.DeepCutAuto
namespace Go.Proofs.Ytdnegamminhbfaa
open Go.RowKit Go.Sort Go.Lib

theorem out_secondW (wq : World) (o : Obj) : OwnW ((wq.alloc o).alloc outO).drew wq.heap.size (some ⟨wq.heap.size + 1, 0, none⟩) 0 0 [] := ⟨(out_second wq o).row, fun _ hv => by cases hv⟩
theorem box_afterV (wq w1 : World) (v : Value) (hv : ∃ A m c, v = .slice A m c) {n c : Nat} (g1 : ((wq.alloc outO).alloc (.cells #[v] 30)).drew.grownBy w1 (Value.slice (some ⟨wq.heap.size, 0, none⟩) n c).ownBlock) : SrcV w1 (some ⟨wq.heap.size + 1, 0, none⟩) 1 [v] := by
  have hc : ((wq.alloc outO).alloc (.cells #[v] 30)).drew.cell? ⟨wq.heap.size + 1, 0, none⟩ = some v := box_two wq outO v 30
  have hsz : wq.heap.size + 1 < w1.heap.size := Nat.lt_of_lt_of_le (by show _ < ((wq.alloc outO).alloc (.cells #[v] 30)).heap.size; simp) g1.size
  exact SrcV.one (g1.cell hc (by simp [Value.ownBlock])) hsz hv
theorem box_aheadV (wq w1 : World) (v : Value) (hv : ∃ A m c, v = .slice A m c) {n c : Nat} (g1 : ((wq.alloc (.cells #[v] 30)).alloc outO).drew.grownBy w1 (Value.slice (some ⟨wq.heap.size + 1, 0, none⟩) n c).ownBlock) : SrcV w1 (some ⟨wq.heap.size, 0, none⟩) 1 [v] := by
  have hc : ((wq.alloc (.cells #[v] 30)).alloc outO).drew.cell? ⟨wq.heap.size, 0, none⟩ = some v := ((below_alloc (Below.refl (wq.alloc (.cells #[v] 30)).heap.size (wq.alloc (.cells #[v] 30))) outO).cell (p := ⟨wq.heap.size, 0, none⟩) (by simp)).trans (box_one wq v 30)
  have hsz : wq.heap.size < w1.heap.size := Nat.lt_of_lt_of_le (by show _ < ((wq.alloc (.cells #[v] 30)).alloc outO).heap.size; simp; omega) g1.size
  exact SrcV.one (g1.cell hc (by simp [Value.ownBlock])) hsz hv
theorem box_lastV (w1 : World) (v : Value) (hv : ∃ A m c, v = .slice A m c) : SrcV (w1.alloc (.cells #[v] 30)) (some ⟨w1.heap.size, 0, none⟩) 1 [v] :=
  SrcV.one (box_one w1 v 30) (by simp) hv
theorem SrcV.al {w : World} {A : Option Addr} {n : Nat} {vs : List Value} (h : SrcV w A n vs) (o : Obj) : SrcV (w.alloc o) A n vs := h.same (below_alloc (Below.refl _ _) o)
theorem SrcV.dr {w : World} {A : Option Addr} {n : Nat} {vs : List Value} (h : SrcV w A n vs) : SrcV w.drew A n vs := h.same ((Below.refl _ _).drew)
theorem OwnW.al {w : World} {B n c : Nat} {A : Option Addr} {vs : List Value} (h : OwnW w B A n c vs) (o : Obj) : OwnW (w.alloc o) B A n c vs := h.same (below_alloc (Below.refl _ _) o)
theorem OwnW.dr {w : World} {B n c : Nat} {A : Option Addr} {vs : List Value} (h : OwnW w B A n c vs) : OwnW w.drew B A n c vs := h.same ((Below.refl _ _).drew)
theorem move_perm {a r : List Pt} {i : Nat} (hi : i < r.length) : ((a ++ [atP r i]) ++ r.eraseIdx i).Perm (a ++ r) := by
  rw [List.append_assoc]
  refine List.Perm.append_left a ?_
  rw [List.eraseIdx_eq_take_drop_succ, atP_lt hi]
  conv => rhs; rw [← List.take_append_drop i r, List.drop_eq_getElem_cons hi]
  exact (List.perm_middle (a := r[i]) (l₁ := r.take i) (l₂ := r.drop (i + 1))).symm

set_option maxRecDepth 100000 in
set_option maxHeartbeats 8000000 in
theorem l7Most_any (w0 : World) : ∀ (m : Nat) (a r : List Pt) (va vr : List Value) (n : Nat) (A A2 : Option Addr) (c c2 : Nat) (w : World), a.length = n → r.length = m → IsPath (a ++ r) → n + m ≤ 6 → RowsV w0 va a → RowsV w0 vr r → Below w0.heap.size w0 w → SrcV w A n va → SrcV w A2 m vr → m ≤ c2 →
    Calls Try.prog 81 #[.slice A n c, .slice A2 m c2] w fun e w' => e = .returned (.int .i64 (msP m a r)) ∧ Below w.heap.size w w'
  | 0, a, r, va, vr, n, A, A2, c, c2, w, ha, hr, hp, h6, hva, hvr, hb, hsa, hsr, hcap => by
    obtain rfl : r = [] := List.eq_nil_of_length_eq_zero hr
    subst ha
    have hA := l6sArea_any A a.length c (rowsOf a) w (hva.rdM hb hsa) (pathB_rows (by simpa using hp))
    rw [ptsL_rows] at hA
    rw [show msP 0 a [] = areaP a from rfl]
    generalize areaP a = z at *
    clear hr hp h6 hva hvr hb hsa hsr hcap
    go_enter Try.func81, Try.ntmps81
    go_wp2_with fail
    refine hA.mono ?_
    rintro e w1 ⟨rfl, b1⟩
    go_wp2_with fail
    go_ret
    exact ⟨rfl, b1⟩
  | m + 1, a, r, va, vr, n, A, A2, c, c2, w, ha, hr, hp, h6, hva, hvr, hb, hsa, hsr, hcap => by
    obtain ⟨f, ef⟩ : ∃ f : Nat → Int, f = fun i => msP m (a ++ [atP r i]) (r.eraseIdx i) := ⟨_, rfl⟩
    have EZ := Lib.hid (show msP (m + 1) a r = msTo f (m + 1) by rw [ef]; rfl)
    rw [EZ.out]
    have HI := Lib.hid (fun (i : Nat) (hi : i < m + 1) (v : Value) (hv : vr[i]? = some v) (W : World) (hW : Below w.heap.size w W) (A3 A4 : Option Addr) (c3 c4 : Nat) (h1 : SrcV W A3 (n + 1) (va ++ [v])) (h2 : SrcV W A4 m (vr.take i ++ vr.drop (i + 1))) (h3 : m ≤ c4) => (show Calls Try.prog 81 #[.slice A3 (n + 1) c3, .slice A4 m c4] W fun e w' => e = .returned (.int .i64 (f i)) ∧ Below W.heap.size W w' from by
      rw [ef]
      exact l7Most_any w0 m (a ++ [atP r i]) (r.eraseIdx i) (va ++ [v]) (vr.take i ++ vr.drop (i + 1)) (n + 1) A3 A4 c3 c4 W (by simp [ha]) (by rw [List.length_eraseIdx_of_lt (by omega)]; omega) (hp.perm (move_perm (by omega))) (by omega) (hva.mv hvr (by omega) hv) (hvr.rm (by omega)) (hb.trans (hW.mono hb.size)) h1 h2 h3))
    have HB0 := Lib.hid (Below.refl w.heap.size w)
    have HSA := Lib.hid hsa
    have HSR := Lib.hid hsr
    have HCAP := Lib.hid hcap
    obtain ⟨b, off, rfl, hbl, hc⟩ := hsr.2.1 (by omega)
    have HC := Lib.hid hc
    have HSV := Lib.hid (fun i (hi : i < m + 1) => (show ∃ A1 m1 c1, vr[i]? = some (.slice A1 m1 c1) from by
      have hl : i < vr.length := by rw [hsr.1]; exact hi
      obtain ⟨A1, m1, c1, e⟩ := hsr.2.2 _ (List.getElem_mem hl)
      exact ⟨A1, m1, c1, by rw [List.getElem?_eq_getElem hl, e]⟩))
    have H6 := Lib.hid h6
    clear ha hr hp h6 hva hvr hb hsa hsr hcap ef EZ hc
    generalize hM : m + 1 = M at *
    have HM := Lib.hid hM
    clear hM
    have dM : ((M : Int) == 0) = false := by have := HM.out; simp; omega
    go_enter Try.func81, Try.ntmps81
    go_wp2_with fail
    go_loopw [5, 6, 7] (fun s i _ wr => ∃ k : Nat, k ≤ M ∧ i = .int .i64 k ∧ s = .int .i64 (msTo f k) ∧ Below w.heap.size w wr) (fun _ i _ _ => M - (intOf i).toNat)
    case atStart => exact ⟨0, Nat.zero_le _, rfl, rfl, HB0.out⟩
    case round =>
      obtain ⟨k, hk, rfl, rfl, hb⟩ := hrel
      by_cases hlt : k < M
      · obtain ⟨A1, m1, c1, hv⟩ := HSV.out k hlt
        have hcell := (hb.cell (p := ⟨b, off + k, none⟩) hbl).trans ((HC.out k hlt).trans hv)
        have HRS := Lib.hid (HSR.out.same hb)
        have rT := Lib.hid (HRS.out.take (k := k) hk)
        have HCELL := Lib.hid hcell
        have HB := Lib.hid hb
        have hz0 : wr.heap.size ≤ wr.heap.size := Nat.le_refl _
        have v1 : IntKind.i64.wrap ((k : Int) + 1) = (k : Int) + 1 := wrap_is rfl (by omega) (by have := H6.out; omega)
        have e1 : (k : Int) ≤ (c2 : Int) := by have := HCAP.out; omega
        have e2 : (k : Int) ≤ (M : Int) := by omega
        have e3 : (0 : Int) ≤ (k : Int) := by omega
        have e4 : (k : Int) + 1 ≤ (M : Int) := by omega
        have e5 : (0 : Int) ≤ (k : Int) + 1 := by omega
        have e7 : k ≤ c2 := by omega
        have e8 : k + 1 ≤ M := hlt
        have e9 : n + M ≤ 6 := H6.out
        have d1 : decide (k < M) = true := by simpa using hlt
        clear hcell hb
        have n0 : (c2 = k + 1) ∨ ¬ (k + 1 = c2) := by omega
        have HK1 := Lib.hid hlt
        go_upto_region 7 with fail
        go_cut [7] (fun s7 wx => ∃ (A4 : Option Addr) (c4 : Nat), s7 = .slice A4 (M - 1) c4 ∧ SrcV wx A4 (M - 1) (vr.take k ++ vr.drop (k + 1)) ∧ M - 1 ≤ c4 ∧ Below wr.heap.size wr wx)
        case first =>
          have CAP := Lib.hid (fun (A4 : Option Addr) (c4 : Nat) (W : World) (vs : List Value) (h : OwnW W wr.heap.size A4 (k + (M - (k + 1))) c4 vs) => (show M - 1 ≤ c4 from by
            have hk1 := HK1.out
            rcases h.1.2 with ⟨e, e0⟩ | ⟨g, cap, cur, e, _, _, hnc, _⟩
            · omega
            · injection e with _ _ e; omega))
          have LN := Lib.hid (show k + (M - (k + 1)) = M - 1 by have := HK1.out; omega)
          have FIN := Lib.hid (fun (A4 : Option Addr) (c4 : Nat) (W : World) (h : OwnW W wr.heap.size A4 (k + (M - (k + 1))) c4 (vr.take k ++ vr.drop (k + 1))) (hb : Below wr.heap.size wr W) => (show ∃ (A' : Option Addr) (c' : Nat), Value.slice A4 (k + (M - (k + 1))) c4 = .slice A' (M - 1) c' ∧ SrcV W A' (M - 1) (vr.take k ++ vr.drop (k + 1)) ∧ M - 1 ≤ c' ∧ Below wr.heap.size wr W from
            ⟨A4, c4, sl_eq2 LN.out, by have := h.src; rw [LN.out] at this; exact this, CAP.out _ _ _ _ h, hb⟩))
          rcases n0 with hcK | n1
          · subst hcK
            have e1' : (k : Int) ≤ (k : Int) + 1 := by omega
            have rD := Lib.hid (show ∀ W, SrcV W (some ⟨b, off, none⟩) (M - (k + 1)) (vr.drop (k + 1)) from fun W => by
              have h0 : M - (k + 1) = 0 := by have := HCAP.out; omega
              have h1 : vr.drop (k + 1) = [] := List.drop_eq_nil_of_le (by rw [HSR.out.1]; have := HCAP.out; omega)
              rw [h0, h1]
              exact SrcV.nil_ _ _)
            clear HCELL HI HSV HC HSA HM
            go_region_law (first | (refine step_appW wr (c2 := k + 1) rfl (.tmp 19) (.tmp 22) rfl [] rfl ?_ (vr.take k) rfl ?_ ?_ ?_ ?_; (· exact (OwnW.empty wr hz0).dr); (· exact (rT.out.al _).dr); (· exact (below_alloc (Below.refl _ _) _).drew); (· omega); intro A3 c3 w3 o3 b3 g3; simp only [Nat.zero_add, List.nil_append] at o3; clear g3) | (refine step_appW wr (c2 := 0) rfl (.tmp 23) (.tmp 27) rfl (vr.take k) rfl ?_ (vr.drop (k + 1)) rfl ?_ ?_ ?_ ?_; (· exact o3); (· exact rD.out _); (· exact b3); (· omega); intro A4 c4 w4 o4 b4 g4; clear g4))
            all_goals
              have FN := Lib.hid (FIN.out _ _ _ o4 b4)
              clear o3 o4 b3 b4
              go_wp2_with fail
              go_meet
              exact FN.out
          · have n2 : ¬ (c2 = k + 1) := fun e => n1 e.symm
            have rD := Lib.hid (HRS.out.drop (k := k + 1) HK1.out)
            clear HCELL HI HSV HC HSA HM
            go_region_law (first | (refine step_appW wr (c2 := c2) rfl (.tmp 19) (.tmp 22) rfl [] rfl ?_ (vr.take k) rfl ?_ ?_ ?_ ?_; (· exact (OwnW.empty wr hz0).dr); (· exact (rT.out.al _).dr); (· exact (below_alloc (Below.refl _ _) _).drew); (· omega); intro A3 c3 w3 o3 b3 g3; simp only [Nat.zero_add, List.nil_append] at o3; clear g3) | (refine step_appW wr (c2 := c2 - (k + 1)) rfl (.tmp 23) (.tmp 27) rfl (vr.take k) rfl ?_ (vr.drop (k + 1)) rfl ?_ ?_ ?_ ?_; (· exact o3); (· exact rD.out.same b3); (· exact b3); (· omega); intro A4 c4 w4 o4 b4 g4; clear g4))
            all_goals
              have FN := Lib.hid (FIN.out _ _ _ o4 b4)
              clear o3 o4 b3 b4
              go_wp2_with fail
              go_meet
              exact FN.out
        case rest =>
          obtain ⟨A4, c4, rfl, hO4, hc4, b4⟩ := hcut
          have HO4 := Lib.hid hO4
          have hcl := (b4.cell (p := ⟨b, off + k, none⟩) (Nat.lt_of_lt_of_le hbl HB.out.size)).trans HCELL.out
          have HB4 := Lib.hid (HB.out.trans (b4.mono HB.out.size))
          have HSA4 := Lib.hid ((HSA.out.same HB.out).same b4)
          have hb4 : b < wc.heap.size := Nat.lt_of_lt_of_le hbl HB4.out.size
          have HMS := Lib.hid (show msTo f (k + 1) = max (msTo f k) (f k) from rfl)
          have HVS := Lib.hid (show ∃ A m c, (Value.slice A1 m1 c1) = .slice A m c from ⟨_, _, _, rfl⟩)
          have hz4 : wc.heap.size ≤ wc.heap.size := Nat.le_refl _
          have HIK := Lib.hid (fun (W : World) (hW : Below w.heap.size w W) (A3 A4 : Option Addr) (c3 c4 : Nat) (h1 : SrcV W A3 (n + 1) (va ++ [.slice A1 m1 c1])) (h2 : SrcV W A4 (M - 1) (vr.take k ++ vr.drop (k + 1))) (h3 : M - 1 ≤ c4) => (show Calls Try.prog 81 #[.slice A3 (n + 1) c3, .slice A4 (M - 1) c4] W fun e w' => e = .returned (.int .i64 (f k)) ∧ Below W.heap.size W w' from by
            have hm : M - 1 = m := by have := HM.out; omega
            rw [hm] at h2 h3 ⊢
            exact HI.out k HK1.out _ hv W hW A3 A4 c3 c4 h1 h2 h3))
          generalize msTo f k = s at *
          generalize hz : f k = z at *
          have HZ := Lib.hid hz
          obtain ⟨mx, emx⟩ : ∃ mx, (if s < z then z else s) = mx := ⟨_, rfl⟩
          have EMX := Lib.hid (show max s z = mx by rw [← emx]; split <;> omega)
          clear hO4 b4 hz n0 HCELL rT HRS HSR HC HSV HI HSA HM HB hv
          generalize List.take k vr ++ List.drop (k + 1) vr = ve at *
          go_wp2_with fail
          go_region_law (first | (refine step_appW wc (c2 := c) rfl (.tmp 30) (.tmp 31) rfl [] rfl ?_ va rfl ?_ ?_ ?_ ?_; (· first | exact (OwnW.empty wc hz4).dr | exact ((OwnW.empty wc hz4).al _).dr | exact out_secondW wc _); (· first | exact (HSA4.out.al _).dr | exact ((HSA4.out.al _).al _).dr); (· first | exact (below_alloc (Below.refl _ _) _).drew | exact (below_alloc (below_alloc (Below.refl _ _) _) _).drew); (· omega); intro A5 c5 w5 o5 b5 g5; simp only [Nat.zero_add, List.nil_append] at o5; (first | have q5 := box_afterV wc w5 _ HVS.out g5 | have q5 := box_aheadV wc w5 _ HVS.out g5 | skip); have hcl5 := (b5.cell (p := ⟨b, off + k, none⟩) hb4).trans hcl; clear g5) | (refine step_appW wc (c2 := 1) rfl (.tmp 32) (.tmp 37) rfl va rfl ?_ [.slice A1 m1 c1] rfl ?_ ?_ ?_ ?_; (· first | exact o5 | exact o5.al _ | exact o5.dr | exact (o5.al _).dr); (· first | exact q5 | exact q5.dr | exact box_lastV _ _ HVS.out | exact (box_lastV _ _ HVS.out).dr); (· first | exact b5 | exact b5.drew | exact below_alloc b5 _ | exact (below_alloc b5 _).drew); (· omega); intro A6 c6 w6 o6 b6 g6; clear g6) | (go_simp; go_at_call 81; with_reducible refine (HIK.out w6 (HB4.out.trans (b6.mono HB4.out.size)) A6 A4 c6 c4 o6.src (HO4.out.same b6) hc4).mono ?_; rintro e w7 ⟨rfl, b7⟩))
          all_goals
            have HB7 := Lib.hid (HB4.out.trans ((below_then b6 b7).mono HB4.out.size))
            clear b5 b6 b7 o5 o6
            go_wp2_with fail
            go_roundw
            case rel => first | exact ⟨k + 1, HK1.out, by go_num, by rw [HMS.out, EMX.out], HB7.out⟩ | ((repeat apply Exists.intro); exact ⟨⟨k + 1, HK1.out, by go_num, by rw [HMS.out, EMX.out], HB7.out⟩, rfl⟩)
            case measure => have := HK1.out; simp [intOf]; omega
      · obtain rfl : k = M := by omega
        go_wp2_with fail
        go_ret
        exact ⟨rfl, hb⟩

set_option maxRecDepth 100000 in
set_option maxHeartbeats 2000000 in
theorem specOrderMost_any (A : Option Addr) (n c : Nat) (L : List (List Int)) (w : World) (h : RdM w A n L) (hs : SmallM L) (hcap : n ≤ c) :
    Calls Try.prog 28 #[.slice A n c] w fun e w' => e = .returned (.tuple #[.int .i64 (ifM L mostP), .bool (pmB L 6)]) ∧ Below w.heap.size w w' := by
  have hI := specPathIn_any A n c L w h hs
  have HL := Lib.hid h.1
  cases hp : pathB L with
  | false =>
    have e1 : pmB L 6 = false := by unfold pmB; rw [hp]; rfl
    rw [e1, ifM_no _ e1]
    rw [hp] at hI
    clear h hs hp e1
    go_enter Try.func28, Try.ntmps28
    go_wp2_with fail
    refine hI.mono ?_
    rintro e w1 ⟨rfl, b1⟩
    go_wp2_with fail
    refine bodyPost_ret (results_tmp2 rfl _ _ _) rfl ?_
    exact ⟨rfl, b1⟩
  | true =>
    rw [hp] at hI
    by_cases h6 : n ≤ 6
    · have e1 : pmB L 6 = true := by unfold pmB; rw [hp, HL.out]; simpa using h6
      rw [e1, ifM_yes _ e1]
      obtain ⟨hP, hst⟩ := pathB_true hp
      have hlp : (ptsL L).length = n := by simp [h.1]
      have hform : L = rowsOf (ptsL L) := by
        unfold rowsOf ptsL
        rw [List.map_map]
        conv => lhs; rw [← List.map_id L]
        refine List.map_congr_left fun r hr => ?_
        obtain ⟨i, hi, rfl⟩ := List.getElem_of_mem hr
        have h2 := (stepRow_pt (hst i hi)).2
        have e : rowL L i = L[i] := by simp [rowL, List.getD_eq_getElem?_getD, hi]
        rw [e] at h2
        generalize L[i] = r at h2
        match r, h2 with
        | [a, b], _ => rfl
      have HM := Lib.hid (fun (W : World) (hW : Below w.heap.size w W) (A3 : Option Addr) (c3 : Nat) => (show Calls Try.prog 81 #[.slice A3 0 c3, .slice A n c] W fun e w' => e = .returned (.int .i64 (mostP (ptsL L))) ∧ Below W.heap.size W w' from by
        rw [hform] at h
        rw [← hlp] at h hcap ⊢
        obtain ⟨vs, hv1, hv2⟩ := RowsV.of h
        exact l7Most_any w (ptsL L).length [] (ptsL L) [] vs 0 A3 A c3 c W rfl rfl hP (by omega) ⟨rfl, fun i hi => absurd hi (by simp)⟩ hv2 hW (SrcV.nil_ _ _) (hv1.same hW) hcap))
      generalize mostP (ptsL L) = z at *
      have d6 : decide ((n : Int) > 6) = false := by simp; omega
      clear h hs hp e1 hP hst hlp hform h6 hcap
      go_enter Try.func28, Try.ntmps28
      go_wp2_with fail
      refine hI.mono ?_
      rintro e w1 ⟨rfl, b1⟩
      have B1 := Lib.hid (below_alloc b1 (.cells #[] 30))
      clear b1
      go_wp2_with fail
      refine (HM.out _ B1.out _ _).mono ?_
      rintro e w2 ⟨rfl, b2⟩
      go_wp2_with fail
      refine bodyPost_ret (results_tmp2 rfl _ _ _) rfl ?_
      exact ⟨rfl, below_then B1.out b2⟩
    · have e1 : pmB L 6 = false := by unfold pmB; rw [hp, HL.out]; simpa using h6
      rw [e1, ifM_no _ e1]
      have d6 : decide ((n : Int) > 6) = true := by simp; omega
      clear h hs hp e1 h6
      go_enter Try.func28, Try.ntmps28
      go_wp2_with fail
      refine hI.mono ?_
      rintro e w1 ⟨rfl, b1⟩
      go_wp2_with fail
      refine bodyPost_ret (results_tmp2 rfl _ _ _) rfl ?_
      exact ⟨rfl, b1⟩
end Go.Proofs.Ytdnegamminhbfaa
