/- The model's zonogons. -/
import Derived.Test.YthpgenkdiokpeaaOrdS4
import Derived.Test.YthpgenkdiokpeaaOrdS2
import Derived.Test.YthpgenkdiokpeaaPathI6
namespace Go.Proofs.Ythpgenkdiokpeaa
open Go.RowKit Go.Sort Go.Lib

theorem rowsOf_app (a b : List Pt) : rowsOf (a ++ b) = rowsOf a ++ rowsOf b := by simp [rowsOf]
theorem starB_steps {L : List (List Int)} (h : starB L = true) : stepsB (rowsOf ((ptsL L).map upV)) = true := by
  obtain ⟨_, _, _, hs⟩ := starB_true h
  exact stepsB_rows fun s hs' => by
    obtain ⟨a, ha, rfl⟩ := List.mem_map.1 hs'
    exact upV_step (hs a ha)

theorem step_appRowX (wr : World) (x y : Int) {ops : Array Oper} {o : Oper} {a : Act} {K : Act → World → Prop} {Q : Exit → Act → World → Prop} {E : Prop} {W : World} (hgd : o.guard = none) (s t : Operand)
    (ho : o.op = .call { callee := .builtin .append, args := #[s, t], argTypes := #[23, 23] })
    {B n c : Nat} {A : Option Addr} {gs : List Nat} {L : List (List Int)} (hs : a.eval s = .slice A n c) (hx : a.eval t = .slice (some ⟨wr.heap.size + 1, 0, none⟩) 1 1) (hown : OwnX wr B A n c gs L)
    (hW : W.heap = ((wr.alloc (.cells (ints [x, y]).toArray 3)).alloc (.cells #[rowW wr.heap.size [x, y]] 31)).heap) (hWo : W.os = wr.os ∧ W.tape = wr.tape ∧ W.output = wr.output) (hn : n ≤ 100000) (hB : B ≤ wr.heap.size)
    (h : ∀ A' c' W', OwnX W' B A' (n + 1) c' (gs ++ [wr.heap.size]) (L ++ [[x, y]]) → Below B wr W' → wr.heap.size < W'.heap.size → K (a.put o.dst (.slice A' (n + 1) c')) W') :
    if Region.wanted o (yielded ops a.tmps) = true then Oper.wp Try.prog o a W K Q else E := by
  obtain ⟨W2, hW2⟩ : ∃ W2, (wr.alloc (.cells (ints [x, y]).toArray 3)).alloc (.cells #[rowW wr.heap.size [x, y]] 31) = W2 := ⟨_, rfl⟩
  have hz2 : W2.heap.size = wr.heap.size + 2 := by rw [← hW2]; simp
  have hb2 : Below wr.heap.size wr W2 := by rw [← hW2]; exact below_alloc (below_alloc (Below.refl _ _) _) _
  have c2 : W2.cell? ⟨wr.heap.size + 1, 0, none⟩ = some (rowW wr.heap.size [x, y]) := by rw [← hW2]; exact box_two _ _ _ _
  have r2 : RowBlk W2 wr.heap.size [x, y] := by rw [← hW2]; exact row_new wr [x, y] _ (by simp)
  rw [hW2] at hW
  have hbW : Below wr.heap.size wr W := ⟨hWo.1, hWo.2.1, hWo.2.2, by rw [hW]; exact hb2.size, fun k hk => by rw [hW]; exact hb2.block k hk⟩
  have c3 : W.cell? ⟨wr.heap.size + 1, 0, none⟩ = some (rowW wr.heap.size [x, y]) := (World.cell?_of_block (w := W2) (a := ⟨wr.heap.size + 1, 0, none⟩) (by rw [hW])).trans c2
  have hsrc : SrcX W (some ⟨wr.heap.size + 1, 0, none⟩) 1 [wr.heap.size] [[x, y]] := srcBox c3 (by rw [hW, hz2]; omega) ⟨by rw [hW]; exact r2.1, r2.2⟩
  refine step_appX hgd s t ho hs (hown.same hbW) hx hsrc (by omega) (by rw [hW, hz2]; omega) fun A' c' W' h2 h3 => ?_
  refine h A' c' W' h2 ((hbW.mono hB).grown h3 (by rw [hW, hz2]; omega) (fun k e => (hown.blk k e).1)) (Nat.lt_of_lt_of_le (by rw [hW, hz2]; omega) h3.size)

set_option maxRecDepth 100000 in
set_option maxHeartbeats 8000000 in
theorem l7Zono_any (A : Option Addr) (n c : Nat) (L : List (List Int)) (w : World) (h : RdM w A n L) (hp : starB L = true) :
    Calls Try.prog 144 #[.slice A n c] w fun e w' => ∃ A' c' gs, e = .returned (.slice A' (2 * n) c') ∧ OwnM w' w.heap.size A' (2 * n) c' gs (rowsOf (zonP (ptsL L))) ∧ Below w.heap.size w w' := by
  obtain ⟨hst, h2, h4, hsp⟩ := starB_true hp
  have HSB := Lib.hid (starB_steps hp)
  have H0 := Lib.hid (OwnM.empty w (B := w.heap.size) (Nat.le_refl _))
  have B0 := Lib.hid (below_alloc (Below.refl w.heap.size w) (.cells #[] 31))
  have HL := Lib.hid h.1
  rw [HL.out] at h2 h4
  have HR := Lib.hid h
  have HPL := Lib.hid (show (ptsL L).length = n by simp [h.1])
  have HST := Lib.hid (fun i (hi : i < n) => (show stepRow (rowL L i) = true ∧ atP (ptsL L) i = rowPt (rowL L i) from ⟨stepsB_at hst (by rw [h.1]; exact hi), ptsL_at (by rw [h.1]; exact hi)⟩))
  have HSP := Lib.hid hsp
  generalize ptsL L = l at *
  clear h hst hsp hp
  go_enter Try.func144, Try.ntmps144
  go_wp2_with fail
  go_loopw [3, 4] (fun sl i wr => ∃ (k : Nat) (A1 : Option Addr) (c1 : Nat) (gs : List Nat), k ≤ n ∧ i = .int .i64 k ∧ sl = .slice A1 k c1 ∧ OwnM wr w.heap.size A1 k c1 gs (rowsOf ((l.map upV).take k)) ∧ Below w.heap.size w wr) (fun _ i _ => n - (intOf i).toNat)
  case atStart => exact ⟨0, _, 0, [], Nat.zero_le _, rfl, rfl, H0.out, B0.out⟩
  case round =>
    obtain ⟨k, A', c', gs, hk, rfl, rfl, ho, hb⟩ := hrel
    by_cases hlt : k < n
    · obtain ⟨b, off, rfl, hbl, hc⟩ := HR.out.2 (by omega)
      obtain ⟨A1, c1, x1, r1⟩ := hc k hlt
      obtain ⟨hs1, hs2⟩ := HST.out k hlt
      have hr2 := stepRow_pt hs1
      rw [hr2.2] at x1 r1
      have HHf := Lib.hid (l6sHalf_any A1 c1 (rowL L k) wr (r1.same hb))
      rw [← hs2] at HHf
      obtain ⟨b1, off1, rfl, hbl1, hc1⟩ := r1.2 (by omega)
      have hkl : k < l.length := by rw [HPL.out]; exact hlt
      have HTK := Lib.hid (show rowsOf ((l.map upV).take (k + 1)) = rowsOf ((l.map upV).take k) ++ [ptRow (upV (atP l k))] by
        rw [List.take_succ_eq_append_getElem (by simpa using hkl), List.getElem_map, atP_lt hkl]; simp [rowsOf])
      have k0 := (hb.cell (p := ⟨b, off + k, none⟩) hbl).trans x1
      have k1 := (hb.cell (p := ⟨b1, off1 + 0, none⟩) hbl1).trans (hc1 0 (by omega))
      have k2 := (hb.cell (p := ⟨b1, off1 + 1, none⟩) hbl1).trans (hc1 1 (by omega))
      rw [Nat.add_zero] at k1
      have e0 : (rowL L k).getD 0 0 = (atP l k).1 := by rw [hs2]
      have e1 : (rowL L k).getD 1 0 = (atP l k).2 := by rw [hs2]
      rw [e0] at k1
      rw [e1] at k2
      have hx : stepP (atP l k) := by rw [hs2]; exact hr2.1
      have hdn := dn_up hx.2.2
      have HUP := Lib.hid (show upV (atP l k) = if dnB (atP l k) then (-(atP l k).1, -(atP l k).2) else ((atP l k).1, (atP l k).2) from rfl)
      have hq9 : (-9 ≤ (atP l k).1 ∧ (atP l k).1 ≤ 9) ∧ (-9 ≤ (atP l k).2 ∧ (atP l k).2 ≤ 9) := ⟨hx.1, hx.2.1⟩
      have HB := Lib.hid hb
      have HOW := Lib.hid ho
      clear hc x1 r1 hc1 hr2 hb ho hs1 hs2 e0 e1 hkl hx
      have hHf := HHf.out
      cases hup : upB (atP l k) with
      | true =>
        rw [half_yes hup] at hHf
        rw [hup] at hdn
        have HT := Lib.hid (show rowsOf ((l.map upV).take (k + 1)) = rowsOf ((l.map upV).take k) ++ [[(atP l k).1, (atP l k).2]] by rw [HTK.out, HUP.out, hdn]; rfl)
        generalize (atP l k).1 = qx at *
        generalize (atP l k).2 = qy at *
        have HHG := Lib.hid hHf
        clear HHf HUP HTK hup hdn hHf hq9
        have K0 := Lib.hid (fun W (hW : Below wr.heap.size wr W) => (show W.cell? ⟨b, off + k, none⟩ = some (.slice (some ⟨b1, off1, none⟩) 2 c1) ∧ W.cell? ⟨b1, off1, none⟩ = some (.int .i64 qx) ∧ W.cell? ⟨b1, off1 + 1, none⟩ = some (.int .i64 qy) from ⟨(hW.cell (p := ⟨b, off + k, none⟩) (Nat.lt_of_lt_of_le hbl HB.out.size)).trans k0, (hW.cell (p := ⟨b1, off1, none⟩) (Nat.lt_of_lt_of_le hbl1 HB.out.size)).trans k1, (hW.cell (p := ⟨b1, off1 + 1, none⟩) (Nat.lt_of_lt_of_le hbl1 HB.out.size)).trans k2⟩))
        go_wp2_with fail
        refine HHG.out.mono ?_
        rintro e w3 ⟨rfl, b3⟩
        obtain ⟨n0, n1, n2⟩ := K0.out _ b3
        replace HOW := Lib.hid (HOW.out.same b3)
        replace HB := Lib.hid (below_then HB.out b3)
        clear b3 k0 k1 k2
        go_wp2_with fail
        go_region_law (refine step_appRowM w3 qx qy rfl (.tmp 20) (.tmp 34) rfl rfl rfl HOW.out rfl ⟨rfl, rfl, rfl⟩ (by omega) HB.out.size ?_; intro A5 c5 W5 o5 b5; have HO5 := Lib.hid o5; have HB5 := Lib.hid (HB.out.trans b5); clear o5 b5)
        all_goals
          go_wp2_with fail
          go_roundw
          case rel =>
            first
              | exact ⟨k + 1, A5, c5, _, by omega, by go_num, rfl, by rw [HT.out]; exact HO5.out, HB5.out⟩
              | ((repeat apply Exists.intro); exact ⟨⟨k + 1, A5, c5, _, by omega, by go_num, rfl, by rw [HT.out]; exact HO5.out, HB5.out⟩, rfl⟩)
          case measure => simp [intOf]; omega
      | false =>
        rw [half_no hup] at hHf
        rw [hup] at hdn
        have HT := Lib.hid (show rowsOf ((l.map upV).take (k + 1)) = rowsOf ((l.map upV).take k) ++ [[-(atP l k).1, -(atP l k).2]] by rw [HTK.out, HUP.out, hdn]; rfl)
        generalize (atP l k).1 = qx at *
        generalize (atP l k).2 = qy at *
        have v1 : IntKind.i64.wrap (-qx) = -qx := wrap_is rfl (by omega) (by omega)
        have v2 : IntKind.i64.wrap (-qy) = -qy := wrap_is rfl (by omega) (by omega)
        have HHG := Lib.hid hHf
        clear HHf HUP HTK hup hdn hHf hq9
        have K0 := Lib.hid (fun W (hW : Below wr.heap.size wr W) => (show W.cell? ⟨b, off + k, none⟩ = some (.slice (some ⟨b1, off1, none⟩) 2 c1) ∧ W.cell? ⟨b1, off1, none⟩ = some (.int .i64 qx) ∧ W.cell? ⟨b1, off1 + 1, none⟩ = some (.int .i64 qy) from ⟨(hW.cell (p := ⟨b, off + k, none⟩) (Nat.lt_of_lt_of_le hbl HB.out.size)).trans k0, (hW.cell (p := ⟨b1, off1, none⟩) (Nat.lt_of_lt_of_le hbl1 HB.out.size)).trans k1, (hW.cell (p := ⟨b1, off1 + 1, none⟩) (Nat.lt_of_lt_of_le hbl1 HB.out.size)).trans k2⟩))
        go_wp2_with fail
        refine HHG.out.mono ?_
        rintro e w3 ⟨rfl, b3⟩
        obtain ⟨n0, n1, n2⟩ := K0.out _ b3
        replace HOW := Lib.hid (HOW.out.same b3)
        replace HB := Lib.hid (below_then HB.out b3)
        clear b3 k0 k1 k2
        go_wp2_with fail
        go_region_law (refine step_appRowM w3 (-qx) (-qy) rfl (.tmp 36) (.tmp 52) rfl rfl rfl HOW.out rfl ⟨rfl, rfl, rfl⟩ (by omega) HB.out.size ?_; intro A5 c5 W5 o5 b5; have HO5 := Lib.hid o5; have HB5 := Lib.hid (HB.out.trans b5); clear o5 b5)
        all_goals
          go_wp2_with fail
          go_roundw
          case rel =>
            first
              | exact ⟨k + 1, A5, c5, _, by omega, by go_num, rfl, by rw [HT.out]; exact HO5.out, HB5.out⟩
              | ((repeat apply Exists.intro); exact ⟨⟨k + 1, A5, c5, _, by omega, by go_num, rfl, by rw [HT.out]; exact HO5.out, HB5.out⟩, rfl⟩)
          case measure => simp [intOf]; omega
    · obtain rfl : k = n := by omega
      rw [List.take_of_length_le (by rw [List.length_map, HPL.out]; exact Nat.le_refl _)] at ho
      have HS := Lib.hid (l7Sorted_any A' k c' _ wr ho.rd (by omega) HSB.out)
      rw [ptsL_rows] at HS
      have HZ := Lib.hid (show zonP l = srt (l.map upV) ++ (srt (l.map upV)).map negP from rfl)
      have hsu : ∀ s ∈ l.map upV, stepP s := fun s hs => by
        obtain ⟨a, ha, rfl⟩ := List.mem_map.1 hs
        exact upV_step (HSP.out a ha)
      have hlu : (l.map upV).length = k := by rw [List.length_map, HPL.out]
      have HQ9 := Lib.hid (fun i (hi : i < k) => (show (-9 ≤ (atP (srt (l.map upV)) i).1 ∧ (atP (srt (l.map upV)) i).1 ≤ 9) ∧ (-9 ≤ (atP (srt (l.map upV)) i).2 ∧ (atP (srt (l.map upV)) i).2 ≤ 9) from by
        have hm : atP (srt (l.map upV)) i ∈ l.map upV := by
          rw [atP_lt (by rw [srt_len, hlu]; exact hi)]
          exact (srt_perm _).mem_iff.1 (List.getElem_mem _)
        have := hsu _ hm
        exact ⟨this.1, this.2.1⟩))
      have HSL := Lib.hid (show (srt (l.map upV)).length = k by rw [srt_len, hlu])
      generalize srt (l.map upV) = q at *
      have HB := Lib.hid hb
      clear ho hb hsu hlu
      go_wp2_with fail
      refine HS.out.mono ?_
      rintro e w2 ⟨A2, c2, gs2, rfl, o2, b2⟩
      have HO2 := Lib.hid (o2.lower HB.out.size)
      have HB2 := Lib.hid (below_then HB.out b2)
      have oE := OwnX.empty w2 (Nat.le_refl w2.heap.size)
      have sE := (HO2.out.x.src).same (below_alloc (Below.refl _ _) (.cells #[] 31))
      have bE := below_alloc (Below.refl w2.heap.size w2) (.cells #[] 31)
      clear o2 b2
      go_wp2_with (at_builtin; refine wpList_appX rfl (.tmp 56) (.tmp 57) rfl rfl oE rfl sE (by omega) bE.size ?_; intro A5 c5 W5 o5 g5)
      have HB5 := Lib.hid (app_markX bE oE (Nat.le_refl _) g5)
      have HO5 := Lib.hid (show OwnX W5 w2.heap.size A5 (k + 0) c5 gs2 (rowsOf (q ++ (q.map negP).take 0)) from by
        have o6 := o5
        simp only [Nat.zero_add, List.nil_append] at o6
        simpa using o6)
      have HG5 := Lib.hid (show gs2.Nodup ∧ ∀ g ∈ gs2, w.heap.size ≤ g ∧ g < W5.heap.size from ⟨HO2.out.nodup, fun g hg => ⟨(HO2.out.mem hg).1, Nat.lt_of_lt_of_le (HO2.out.mem hg).2 HB5.out.size⟩⟩)
      clear oE sE bE o5 g5
      go_loopw [5, 6] (fun sl i wr => ∃ (k' : Nat) (A1 : Option Addr) (c1 : Nat) (gs : List Nat), k' ≤ k ∧ i = .int .i64 k' ∧ sl = .slice A1 (k + k') c1 ∧ OwnX wr w2.heap.size A1 (k + k') c1 gs (rowsOf (q ++ (q.map negP).take k')) ∧ (gs.Nodup ∧ ∀ g ∈ gs, w.heap.size ≤ g ∧ g < wr.heap.size) ∧ Below w2.heap.size w2 wr) (fun _ i _ => k - (intOf i).toNat)
      case atStart => exact ⟨0, _, _, _, Nat.zero_le _, rfl, rfl, HO5.out, HG5.out, HB5.out⟩
      case round =>
        obtain ⟨j, A6, c6, gs, hj, rfl, rfl, ho, hgs, hb⟩ := hrel
        by_cases hjl : j < k
        · have hq := HO2.out.rd.below (Nat.le_refl _) hb
          obtain ⟨b, off, rfl, hbl, hc⟩ := hq.2 (by omega)
          obtain ⟨A1, c1, x1, r1⟩ := hc j hjl
          have hrl : rowL (rowsOf q) j = ptRow (atP q j) := rowsOf_at (by rw [HSL.out]; exact hjl)
          rw [hrl] at x1 r1
          obtain ⟨b1, off1, rfl, hbl1, hc1⟩ := r1.2 (by simp)
          have hql : j < q.length := by rw [HSL.out]; exact hjl
          have HT := Lib.hid (show rowsOf (q ++ (q.map negP).take (j + 1)) = rowsOf (q ++ (q.map negP).take j) ++ [[-(atP q j).1, -(atP q j).2]] by
            rw [List.take_succ_eq_append_getElem (by simpa using hql), List.getElem_map, atP_lt hql]; simp [rowsOf, negP])
          have k1 : wr.cell? ⟨b1, off1 + 0, none⟩ = some (.int .i64 (atP q j).1) := hc1 0 (by simp)
          have k2 : wr.cell? ⟨b1, off1 + 1, none⟩ = some (.int .i64 (atP q j).2) := hc1 1 (by simp)
          rw [Nat.add_zero] at k1
          have k0 : wr.cell? ⟨b, off + j, none⟩ = some (.slice (some ⟨b1, off1, none⟩) 2 c1) := x1
          have hq9 := HQ9.out j hjl
          generalize (atP q j).1 = qx at *
          generalize (atP q j).2 = qy at *
          have v1 : IntKind.i64.wrap (-qx) = -qx := wrap_is rfl (by omega) (by omega)
          have v2 : IntKind.i64.wrap (-qy) = -qy := wrap_is rfl (by omega) (by omega)
          have HBB := Lib.hid hb
          have HOW := Lib.hid ho
          have HGS := Lib.hid hgs
          clear hq hc x1 r1 hc1 hrl hql hq9 hb ho hgs
          go_wp2_with fail
          go_region_law (refine step_appRowX wr (-qx) (-qy) rfl (.tmp 65) (.tmp 81) rfl rfl rfl HOW.out rfl ⟨rfl, rfl, rfl⟩ (by omega) HBB.out.size ?_; intro A7 c7 W7 o7 b7 z7; have HO7 := Lib.hid o7; have HB7 := Lib.hid (HBB.out.trans b7); have HZ7 := Lib.hid z7; clear o7 b7 z7)
          all_goals
            have HG7 := Lib.hid (show (gs ++ [wr.heap.size]).Nodup ∧ ∀ g ∈ gs ++ [wr.heap.size], w.heap.size ≤ g ∧ g < W7.heap.size from ⟨by
              rw [List.nodup_append]
              exact ⟨HGS.out.1, by simp, fun a ha b hb e => by
                have h1 := (HGS.out.2 a ha).2
                rw [List.mem_singleton.1 hb] at e
                omega⟩, fun g hg => by
              have hz := HZ7.out
              rcases List.mem_append.1 hg with hg | hg
              · have := HGS.out.2 g hg; omega
              · rw [List.mem_singleton.1 hg]
                have h1 := HB2.out.size
                have h2 := HBB.out.size
                omega⟩)
            go_wp2_with fail
            go_roundw
            case rel =>
              first
                | exact ⟨j + 1, A7, c7, _, by omega, by go_num, rfl, by rw [HT.out]; exact HO7.out, HG7.out, HB7.out⟩
                | ((repeat apply Exists.intro); exact ⟨⟨j + 1, A7, c7, _, by omega, by go_num, rfl, by rw [HT.out]; exact HO7.out, HG7.out, HB7.out⟩, rfl⟩)
            case measure => simp [intOf]; omega
        · obtain rfl : j = k := by omega
          rw [List.take_of_length_le (by rw [List.length_map, HSL.out]; exact Nat.le_refl _), ← HZ.out] at ho
          have HE := Lib.hid ((ho.lower HB2.out.size).m hgs.1 (fun g hg => (hgs.2 g hg).1))
          have HBE := Lib.hid (below_then HB2.out hb)
          clear ho hgs hb
          go_wp2_with fail
          go_ret
          refine ⟨A6, c6, gs, ret_sl (by omega), ?_, HBE.out⟩
          have := HE.out
          rwa [show j + j = 2 * j by omega] at this

set_option maxRecDepth 100000 in
set_option maxHeartbeats 2000000 in
theorem specZonoPath_any (A : Option Addr) (n c : Nat) (L : List (List Int)) (w : World) (h : RdM w A n L) (hs : SmallM L) :
    Calls Try.prog 82 #[.slice A n c] w fun e w' => (∃ (A' : Option Addr) (n' c' : Nat), e = .returned (.tuple #[.slice A' n' c', .bool (starB L)]) ∧ RdM w' A' n' (ifZ L)) ∧ Below w.heap.size w w' := by
  have hI := l7Star_any A n c L w h hs
  cases hp : starB L with
  | false =>
    rw [ifZ_no hp]
    rw [hp] at hI
    clear h hs hp
    go_enter Try.func82, Try.ntmps82
    go_wp2_with fail
    refine hI.mono ?_
    rintro e w1 ⟨rfl, b1⟩
    go_wp2_with fail
    refine bodyPost_ret (results_tmp2 rfl _ _ _) rfl ?_
    exact ⟨⟨_, 0, 0, rfl, RdM.nil_ _ _⟩, below_alloc b1 _⟩
  | true =>
    rw [ifZ_yes hp]
    rw [hp] at hI
    have HS := Lib.hid (fun W (hW : Below w.heap.size w W) => l7Zono_any A n c L W (h.same hW) hp)
    clear h hs hp
    go_enter Try.func82, Try.ntmps82
    go_wp2_with fail
    refine hI.mono ?_
    rintro e w1 ⟨rfl, b1⟩
    go_wp2_with fail
    refine (HS.out _ b1).mono ?_
    rintro e w2 ⟨A2, c2, gs, rfl, o2, b2⟩
    have HO := Lib.hid o2.rd
    clear o2
    go_wp2_with fail
    refine bodyPost_ret (results_tmp2 rfl _ _ _) rfl ?_
    exact ⟨⟨_, _, _, rfl, HO.out⟩, below_then b1 b2⟩
end Go.Proofs.Ythpgenkdiokpeaa
