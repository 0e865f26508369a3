/- Joined: FewR, FewI: the program's fewest runs, OrderFewest. -/
import Derived.Test.YthpgenkdiokpeaaReach
import Derived.Test.YthpgenkdiokpeaaPathI5
import Derived.Test.YthpgenkdiokpeaaRingOf
import Derived.Test.YthpgenkdiokpeaaPathI1
import Derived.Test.YthpgenkdiokpeaaOrdS9
namespace Go.Proofs.Ythpgenkdiokpeaa
open Go.RowKit Go.Sort Go.Lib

theorem RdV.moved {w w' : World} {A : Option Addr} {n : Nat} {l : List Pt} (h : RdV w A n l) (hz : w.heap.size ≤ w'.heap.size) (hs : SameIn 0 w.heap.size w w') : RdV w' A n l :=
  ⟨h.1, fun hn => by
    obtain ⟨b, off, rfl, hlt, hc⟩ := h.2 hn
    exact ⟨b, off, rfl, by omega, fun j hj => ⟨(World.cell?_of_block (a := ⟨b, off + j * 2, none⟩) (hs b (by omega) hlt)).trans (hc j hj).1, (World.cell?_of_block (a := ⟨b, off + j * 2 + 1, none⟩) (hs b (by omega) hlt)).trans (hc j hj).2⟩⟩⟩

theorem wf_bd {v : Int} (h1 : -1000000 ≤ v) (h2 : v ≤ 1000000) : wfI v := WalkArith.wf_i64 (by omega)
theorem IsPath.wfO {l : List Pt} (P : IsPath l) {n : Nat} (hl : l.length = n) (h5 : n ≤ 5) (y : List Pt) (hy : y.Perm l) : WfO n y := by
  have PY := P.perm hy
  refine ⟨by rw [hy.length_eq, hl], h5, fun i => ?_⟩
  by_cases hi : i < y.length
  · have := PY.at_ hi
    exact ⟨wf_bd (by have := this.1; omega) (by have := this.1; omega), wf_bd (by have := this.2.1; omega) (by have := this.2.1; omega)⟩
  · rw [atP_out (by omega)]
    exact ⟨wf_bd (by omega) (by omega), wf_bd (by omega) (by omega)⟩
theorem rdV_hd {av : Nat → Prop} {W0 W : World} {A : Option Addr} {n : Nat} {l : List Pt} (h : RdV W0 A n l) (hb : Below W0.heap.size W0 W) (ha : ∀ k, av k → W0.heap.size ≤ k) : HdP av (fun W' => RdV W' A n l) W :=
  ⟨0, W0.heap.size, hb.size, fun k hk => .inr (ha k hk), fun _ hz hs => h.moved (Nat.le_trans hb.size hz) (fun k k1 k2 => (hs k k1 k2).trans (hb.block k k2))⟩

theorem HdP.less {av av' : Nat → Prop} {R : World → Prop} {W : World} (h : HdP av R W) (ha : ∀ k, av' k → av k) : HdP av' R W := by
  obtain ⟨lo, hi, h1, h2, h3⟩ := h
  exact ⟨lo, hi, h1, fun k hk => h2 k (ha k hk), h3⟩
theorem hd_cell {av : Nat → Prop} {W : World} {g i : Nat} {v : Option Value} (h : W.cell? ⟨g, i, none⟩ = v) (hg : g < W.heap.size) (ha : ∀ k, av k → k ≠ g) : HdP av (fun W' => W'.cell? ⟨g, i, none⟩ = v) W :=
  ⟨g, g + 1, hg, fun k hk => by have := ha k hk; omega, fun W' _ hs => (World.cell?_of_block (a := ⟨g, i, none⟩) (hs g (Nat.le_refl _) (Nat.lt_succ_self _))).trans h⟩

set_option maxRecDepth 100000 in
set_option maxHeartbeats 8000000 in
theorem fewestRuns_any (g0 o0 n c : Nat) (l : List Pt) (w : World) (h : RdV w (some ⟨g0, o0, none⟩) n l) (P : IsPath l) (h5 : n ≤ 5) (hcap : n ≤ c) (hcm : c ≤ 9223372036854775807) :
    Calls Try.prog 137 #[.slice (some ⟨g0, o0, none⟩) n c] w fun e w' => e = .returned (.tuple #[.int .i64 (((fewP l).getD 0 : Nat) : Int), .bool (fewP l).isSome]) ∧ Below w.heap.size w w' := by
  have hl := h.1
  have h3 := P.lo
  have HWF := Lib.hid (fun y hy => P.wfO hl h5 y hy)
  have HP := Lib.hid P
  have HL := Lib.hid hl
  have H5 := Lib.hid (show l.length ≤ 5 from by omega)
  have HF0 := Lib.hid (show fewP l = fewR n (4000 - 0) [l] [0] 0 from by unfold fewP; rw [hl])
  have HB0 := Lib.hid (Bfs.start l n)
  obtain ⟨fp, efp⟩ : ∃ fp, fp = fewP l := ⟨_, rfl⟩
  rw [← efp] at HF0 ⊢
  have hmk := @run_makeMap Try.prog
  have hn3 : 3 ≤ n := by omega
  have J0 := Lib.hid (show ReaJ w n (w.heap.size + 1) (w.heap.size + 1 + 1 + 1) w.heap.size [] (some ⟨w.heap.size + 1 + 1, 0, none⟩) 0 0 (some ⟨w.heap.size + 1 + 1, 0, none⟩) 0 0 [] [] 0 ((((w.alloc (.map #[] 0)).alloc (.cells #[.map (some w.heap.size)] 104)).alloc (.cells #[] 69)).alloc (.cells #[.slice (some ⟨w.heap.size + 1 + 1, 0, none⟩) 0 0] 105)) from by
    obtain ⟨W1, e1⟩ : ∃ W1, W1 = w.alloc (.map #[] 0) := ⟨_, rfl⟩
    obtain ⟨W2, e2⟩ : ∃ W2, W2 = W1.alloc (.cells #[.map (some w.heap.size)] 104) := ⟨_, rfl⟩
    obtain ⟨W3, e3⟩ : ∃ W3, W3 = W2.alloc (.cells #[] 69) := ⟨_, rfl⟩
    have z1 : W1.heap.size = w.heap.size + 1 := by rw [e1, World.size_alloc]
    have z2 : W2.heap.size = w.heap.size + 1 + 1 := by rw [e2, World.size_alloc, z1]
    have z3 : W3.heap.size = w.heap.size + 1 + 1 + 1 := by rw [e3, World.size_alloc, z2]
    have b1 : Below w.heap.size w W1 := by rw [e1]; exact below_alloc (Below.refl _ _) _
    have b2 : Below W1.heap.size W1 W2 := by rw [e2]; exact below_alloc (Below.refl _ _) _
    have b3 : Below W2.heap.size W2 W3 := by rw [e3]; exact below_alloc (Below.refl _ _) _
    have b4 : Below W3.heap.size W3 (W3.alloc (.cells #[.slice (some ⟨w.heap.size + 1 + 1, 0, none⟩) 0 0] 105)) := below_alloc (Below.refl _ _) _
    have s1 := SetR.made n w
    rw [← e1] at s1
    have m2 := Boxed.new W1 104 (.map (some w.heap.size))
    rw [← e2, z1] at m2
    have o3 := OwnS.empty 69 W2 (B := w.heap.size) (by omega)
    rw [← e3, z2] at o3
    have m4 := Boxed.new W3 105 (.slice (some ⟨w.heap.size + 1 + 1, 0, none⟩) 0 0)
    rw [z3] at m4
    rw [← e1, ← e2, ← e3]
    exact ⟨((b4.block _ (by omega)).trans ((b3.block _ (by omega)).trans m2)), m4, ((s1.same b2).same b3).same b4, o3.same b4, rfl, fun i hi => absurd hi (by omega), below_then (below_then (below_then b1 b2) b3) b4, ⟨by omega, by omega, by omega⟩, by omega, by omega, by omega⟩)
  have bW0 := J0.out.bel
  have hC := reach_any J0.out (HWF.out l (List.Perm.refl l)) (by omega) hcap hcm (rdV_hd h bW0 (fun k hk => by
    rcases hk with e | rfl | rfl
    · simp only [Value.ownBlock, Option.some.injEq] at e; omega
    · omega
    · omega)) (by simp)
  rw [show addO [] l = [l] from by simp [addO]] at hC
  clear h P hl h3 efp bW0 J0
  go_enter Try.func137, Try.ntmps137
  go_wp2_with fail
  refine hC.mono ?_
  rintro e w4 ⟨rfl, A4, n4, c4, vs4, j4, _⟩
  have J4 := Lib.hid j4
  clear j4 hC
  go_wp2_with fail
  go_loopw [7] (fun sr wr => ∃ (r k : Nat) (m : List (List Pt)) (ds : List Nat) (A : Option Addr) (nr c : Nat) (vs : List Value), sr = .int .i64 r ∧ r ≤ k ∧ ReaJ w n (w.heap.size + 1) (w.heap.size + 1 + 1 + 1) w.heap.size m A nr c A nr c vs m k wr ∧ Bfs l n m ds k ∧ (∀ j, k ≤ j → j < m.length → ds.getD j 0 = r) ∧ fp = fewR n (4000 - k) m ds k) (fun sr _ => 4000 - (intOf sr).toNat)
  case atStart =>
    exact ⟨0, 0, [l], [0], A4, n4, c4, vs4, rfl, Nat.le_refl _, J4.out, HB0.out, fun j _ hj => by
      obtain rfl : j = 0 := by simpa using hj
      rfl, HF0.out⟩
  case round =>
    clear J4 HB0 HF0
    obtain ⟨r, k, m, ds, A, nr, c1, vs, rfl, hrk, hJ, hB, hD, hF⟩ := hrel
    have hfew := hB.met.few H5.out
    have hcnt := hJ.cnt
    have kc := (show Boxed wr (w.heap.size + 1 + 1 + 1) 105 (.slice A nr c1) from hJ.b2).cell
    have kf := (show Boxed wr (w.heap.size + 1 + 1 + 1) 105 (.slice A nr c1) from hJ.b2).frozen
    by_cases hnr : 0 < nr
    · have d0 : decide ((nr : Int) > 0) = true := by simp; omega
      obtain ⟨gA, rfl, hgA, _⟩ := hJ.own.at hnr
      have J1 := hJ.box none 0 0
      have hap := hJ.apart gA rfl
      have hcells := fun i (hi : i < nr) => hJ.own.at hi
      obtain ⟨W2, eW2⟩ : ∃ W2, W2 = wr.setCell ⟨w.heap.size + 1 + 1 + 1, 0, none⟩ (.slice none 0 0) := ⟨_, rfl⟩
      rw [← eW2] at J1
      have hzz : W2.heap.size = wr.heap.size := by rw [eW2]; simp [World.setCell]
      have J2 := Lib.hid (show ReaJ w n (w.heap.size + 1) (w.heap.size + 1 + 1 + 1) w.heap.size m none 0 0 none 0 0 [] m (k + nr) W2 from
        ⟨J1.b1, J1.b2, J1.set, OwnS.nil_ _ _ _, by omega, fun i hi => absurd hi (by omega), J1.bel, J1.lo⟩)
      have HC := Lib.hid (show ∀ i, i < nr → HdP (avR none 0 0 (w.heap.size + 1 + 1 + 1) w.heap.size) (fun W' => W'.cell? ⟨gA, i, none⟩ = vs[i]?) W2 from fun i hi => by
        obtain ⟨g', e', _, hc'⟩ := J1.own.at hi
        simp only [Option.some.injEq, Addr.mk.injEq, and_true] at e'
        subst e'
        exact hd_cell hc' (by omega) (fun j hj => by
          rcases hj with e | rfl | rfl
          · cases e
          · exact fun e => hap.2.1 e.symm
          · exact fun e => hap.2.2 e.symm))
      have HRW := Lib.hid (show ∀ i, i < nr → ∃ g o1 c2, vs[i]? = some (.slice (some ⟨g, o1, none⟩) n c2) ∧ n ≤ c2 ∧ c2 ≤ 9223372036854775807 ∧ HdP (avR none 0 0 (w.heap.size + 1 + 1 + 1) w.heap.size) (fun W' => RdV W' (some ⟨g, o1, none⟩) n (m.getD (k + i) [])) W2 from fun i hi => by
        obtain ⟨g, o1, c2, h1, h2, h3, h4⟩ := J1.rows i hi
        exact ⟨g, o1, c2, h1, h2, h3, h4.less (fun j hj => by
          rcases hj with e | e | e
          · cases e
          · exact .inr (.inl e)
          · exact .inr (.inr e))⟩)
      have HB := Lib.hid hB
      have HD := Lib.hid hD
      have HF := Lib.hid hF
      have HCN := Lib.hid hcnt
      have vr : IntKind.i64.wrap ((r : Int) + 1) = ((r + 1 : Nat) : Int) := wrap_is (by omega) (by omega) (by omega)
      have HRK := Lib.hid (show r ≤ k ∧ k < 3125 from by omega)
      have hnn : nr ≤ 3125 := by omega
      clear hJ hB hD hF J1 hap hcells hcnt hrk hgA hfew hzz
      go_wp2_with fail
      rw [← eW2]
      clear eW2 kc kf
      go_loopw [25] (fun si wr => ∃ (i : Nat) (m' : List (List Pt)) (ds' : List Nat) (A' : Option Addr) (nr' c' : Nat) (vs' : List Value), i ≤ nr ∧ si = .int .i64 i ∧ ReaJ w n (w.heap.size + 1) (w.heap.size + 1 + 1 + 1) w.heap.size m' A' nr' c' A' nr' c' vs' m' (k + nr) wr ∧ Bfs l n m' ds' (k + i) ∧ ((∀ j, k + i ≤ j → j < k + nr → ds'.getD j 0 = r) ∧ (∀ j, k + nr ≤ j → j < m'.length → ds'.getD j 0 = r + 1)) ∧ fp = fewR n (4000 - (k + i)) m' ds' (k + i) ∧ (∀ R, HdP (avR none 0 0 (w.heap.size + 1 + 1 + 1) w.heap.size) R W2 → HdP (avR A' nr' c' (w.heap.size + 1 + 1 + 1) w.heap.size) R wr) ∧ ((∀ j, j < k + nr → m'.getD j [] = m.getD j []) ∧ k + nr ≤ m'.length)) (fun si _ => nr - (intOf si).toNat)
      case atStart => exact ⟨0, m, ds, none, 0, 0, [], Nat.zero_le _, rfl, J2.out, HB.out, ⟨fun j h1 h2 => HD.out j h1 (by have := HCN.out; omega), fun j h1 h2 => by have := HCN.out; omega⟩, HF.out, fun R hR => hR, fun j hj => rfl, by have := HCN.out; omega⟩
      case round =>
        clear J2 HB HD HF
        obtain ⟨i, m', ds', A', nr', c', vs', hi, rfl, hJ, hB, hD, hF, hR, hm⟩ := hrel
        have HJ := Lib.hid hJ
        have HB := Lib.hid hB
        have HD := Lib.hid hD
        have HF := Lib.hid hF
        have HR := Lib.hid hR
        have HMM := Lib.hid hm
        clear hJ hB hD hF hR hm
        by_cases hlt : i < nr
        · have hfew := HB.out.met.few H5.out
          have hki : k + i < m'.length := by have := HMM.out.2; omega
          obtain ⟨g, o1, c2, hv, hc2, hc3, hH⟩ := HRW.out i hlt
          have kc := (HR.out _ (HC.out i hlt)).out
          rw [hv] at kc
          have hH2 := HR.out _ hH
          obtain ⟨x, ex⟩ : ∃ x, x = m.getD (k + i) [] := ⟨_, rfl⟩
          have ex2 : m'.getD (k + i) [] = x := by rw [HMM.out.1 _ (by omega), ex]
          rw [← ex] at hH2
          have hx : x.Perm l := by rw [← ex2]; exact HB.out.met.pm _ (getD_mem' hki)
          have PX := HP.out.perm hx
          have hxl : x.length = n := by rw [hx.length_eq]; exact HL.out
          have hG := ring_any (some ⟨g, o1, none⟩) n c2 x wr hH2.out (by omega) (by omega) hc2 hc3 (fun j hj => by have := PX.bd72 (k := j) (by omega); omega)
          have HCV := Lib.hid (fun (W : World) gs (hR : Ring W gs (corL x)) => (show Calls Try.prog 159 #[ptrV (gs.getD 0 0)] W fun e w' => e = .returned (.bool (convB x)) ∧ Below W.heap.size W w' from by
            have := convex_any gs (corL x) W hR (by rw [corL_len]; omega) (fun i hi => by have := cor_box PX i hi; omega)
            rwa [convI_cor PX] at this))
          have HH := Lib.hid hH2
          have HX := Lib.hid hx
          have g1 : (i : Int) < (nr : Int) := by omega
          have g2 : (0 : Int) ≤ (i : Int) := by omega
          have g3 : ((i : Int)).toNat = i := by omega
          have HDK := Lib.hid (show ds'.getD (k + i) 0 = r from HD.out.1 _ (Nat.le_refl _) (by omega))
          have hrk := HRK.out
          have vi : IntKind.i64.wrap ((i : Int) + 1) = ((i + 1 : Nat) : Int) := wrap_is (by omega) (by omega) (by omega)
          cases hcv : convB x with
          | true =>
            rw [hcv] at HCV
            have HFP := Lib.hid (show fp = some r from by rw [HF.out, fewR_hit hki (by omega) (by rw [ex2]; exact hcv), HDK.out])
            have HBE := Lib.hid HJ.out.bel
            clear hH hH2 hx PX hxl ex ex2 hcv hv HJ HB HD HF HR HMM HRW HC
            go_wp2_with fail
            refine hG.mono ?_
            rintro e w5 ⟨⟨gs, rfl, hRg, _⟩, b5⟩
            go_wp2_with fail
            refine (HCV.out w5 gs hRg).mono ?_
            rintro e w6 ⟨rfl, b6⟩
            have HBX := Lib.hid (below_then (below_then HBE.out b5) b6)
            clear b5 b6 hRg hG
            go_wp2_with fail
            refine bodyPost_ret (results_tmp2 rfl _ _ _) rfl ?_
            rw [HFP.out]
            exact ⟨rfl, HBX.out⟩
          | false =>
            rw [hcv] at HCV
            have HB2 := Lib.hid (show Bfs l n (expA x n n m') (farD (expA x n n m') ds' (r + 1)) (k + (i + 1)) from by
              have := HB.out.step hki (by rw [ex2]; exact hcv)
              rwa [ex2, HDK.out] at this)
            have HF2 := Lib.hid (show fp = fewR n (4000 - (k + (i + 1))) (expA x n n m') (farD (expA x n n m') ds' (r + 1)) (k + (i + 1)) from by
              rw [HF.out, fewR_step hki (by omega) (by rw [ex2]; exact hcv), ex2, HDK.out, show 4000 - (k + i) - 1 = 4000 - (k + (i + 1)) by omega]; rfl)
            have HPR := Lib.hid (expA_pre x n m' n)
            have HDL := Lib.hid HB.out.len
            have HMT := Lib.hid HB.out.met
            clear hH hH2 hx PX hxl ex ex2 hcv hv HB HF
            go_wp2_with fail
            refine hG.mono ?_
            rintro e w5 ⟨⟨gs, rfl, hRg, _⟩, b5⟩
            go_wp2_with fail
            refine (HCV.out w5 gs hRg).mono ?_
            rintro e w6 ⟨rfl, b6⟩
            have b56 := below_then b5 b6
            have hE := eachRun_any (c1 := c2) (HJ.out.same b56) HMT.out HX.out HL.out HWF.out (by omega) (HH.out.same b56)
            have HR6 := Lib.hid (fun R hR => (HR.out R hR).same b56)
            clear b5 b6 b56 hRg hG HJ HR HH
            go_wp2_with fail
            refine hE.mono ?_
            rintro e w7 ⟨rfl, A7, n7, c7, vs7, j7, r7⟩
            have J7 := Lib.hid j7
            have R7 := Lib.hid (fun R hR => r7 R (HR6.out R hR))
            clear j7 r7 hE HR6
            go_wp2_with fail
            go_roundw
            case rel =>
              obtain ⟨sfx, esf⟩ := HPR.out
              have hml := HMM.out.2
              have hdl := HDL.out
              have hel : (expA x n n m').length = m'.length + sfx.length := by rw [esf, List.length_append]
              exact ⟨i + 1, expA x n n m', farD (expA x n n m') ds' (r + 1), A7, n7, c7, vs7, by omega, rfl, J7.out, HB2.out, ⟨fun j h1 h2 => by rw [far_old (by omega)]; exact HD.out.1 j (by omega) h2, fun j h1 h2 => by
                by_cases hjo : j < m'.length
                · rw [far_old (by omega)]; exact HD.out.2 j h1 hjo
                · exact far_new (by omega) h2⟩, HF2.out, R7.out, fun j hj => by rw [esf, getD_pre (by omega)]; exact HMM.out.1 j hj, by omega⟩
            case measure => simp [intOf]; omega
        · obtain rfl : i = nr := by omega
          have g1 : ¬ (i : Int) < (i : Int) := by omega
          go_wp2_with fail
          go_roundw
          case rel => exact ⟨r + 1, k + i, m', ds', A', nr', c', vs', rfl, by have := HRK.out; omega, HJ.out, HB.out, HD.out.2, HF.out⟩
          case measure => have := HRK.out; simp [intOf]; omega
    · obtain rfl : nr = 0 := by omega
      have HFP := Lib.hid (show fp = none from by rw [hF]; exact fewR_done (by omega))
      have HBE := Lib.hid hJ.bel
      clear hJ hB hD hF hcnt
      go_wp2_with fail
      refine bodyPost_ret (results_tmp2 rfl _ _ _) rfl ?_
      rw [HFP.out]
      exact ⟨rfl, HBE.out⟩
end Go.Proofs.Ythpgenkdiokpeaa

/- The program's OrderFewest. -/
namespace Go.Proofs.Ythpgenkdiokpeaa
open Go.RowKit Go.Sort Go.Lib

set_option maxRecDepth 100000 in
set_option maxHeartbeats 4000000 in
theorem orderFewest_any (A : Option Addr) (n c : Nat) (L : List (List Int)) (w : World) (h : RdM w A n L) (hs : SmallM L) :
    Calls Try.prog 75 #[.slice A n c] w fun e w' => e = .returned (.tuple #[.int .i64 (fwI L), .bool (fwB L)]) ∧ Below w.heap.size w w' := by
  have hT := pathSteps_any A n c 5 L w h hs (by omega)
  have HL := Lib.hid h.1
  cases hp : pmB L 5 with
  | false =>
    rw [fwB_no hp, fwI_no hp]
    rw [hp] at hT
    clear h hs hp
    go_enter Try.func75, Try.ntmps75
    go_wp2_with fail
    refine hT.mono ?_
    rintro e w1 ⟨⟨A1, m, c1, rfl, hv⟩, b1⟩
    clear hv hT
    go_wp2_with fail
    refine bodyPost_ret (results_tmp2 rfl _ _ _) rfl ?_
    exact ⟨rfl, b1⟩
  | true =>
    have hp' := hp
    unfold pmB at hp'
    rw [Bool.and_eq_true, decide_eq_true_eq] at hp'
    have hf := rows_form9 hp'.1
    have P := (pathB_true hp'.1).1
    have h5 : n ≤ 5 := by rw [← HL.out]; exact hp'.2
    generalize ptsL L = l at *
    subst hf
    rw [fwB_yes hp, fwI_yes hp]
    rw [hp] at hT
    have hl : l.length = n := by rw [← rowsOf_len]; exact HL.out
    have h3 := P.lo
    have HP := Lib.hid P
    have HN := Lib.hid (show 0 < n ∧ n ≤ 5 from by omega)
    obtain ⟨z, ez⟩ : ∃ z, z = (((fewP l).getD 0 : Nat) : Int) := ⟨_, rfl⟩
    obtain ⟨b, eb⟩ : ∃ b, b = (fewP l).isSome := ⟨_, rfl⟩
    have HF := Lib.hid (fun g0 o0 c W (h : RdV W (some ⟨g0, o0, none⟩) n l) (h1 : n ≤ c) (h2 : c ≤ 9223372036854775807) => fewestRuns_any g0 o0 n c l W h HP.out HN.out.2 h1 h2)
    rw [← ez, ← eb]
    rw [← ez, ← eb] at HF
    clear h hs hp hp' P h5 hl h3 ez eb
    go_enter Try.func75, Try.ntmps75
    go_wp2_with fail
    refine hT.mono ?_
    rintro e w1 ⟨⟨A1, m, c1, rfl, hv⟩, b1⟩
    obtain ⟨rfl, ho⟩ := hv (by first | rfl | trivial)
    obtain ⟨g0, rfl, _, _⟩ := ho.form HN.out.1
    have hcp := ho.caps HN.out.1
    have hG := HF.out g0 0 c1 w1 ho.rd hcp.1 hcp.2
    clear hv ho hT HF hcp
    go_wp2_with fail
    refine hG.mono ?_
    rintro e w2 ⟨rfl, b2⟩
    go_wp2_with fail
    refine bodyPost_ret (results_tmp2 rfl _ _ _) rfl ?_
    exact ⟨rfl, below_then b1 b2⟩
end Go.Proofs.Ythpgenkdiokpeaa
