/- The model's steps in order. -/
import Derived.Test.YtdnegamminhbfaaOrdI2
import Derived.Test.YtdnegamminhbfaaOrdP
import Derived.Test.YtdnegamminhbfaaRowX
import Derived.Test.YtdnegamminhbfaaPathS8
import Derived.Deep.RegionLaw
namespace Go.Proofs.Ytdnegamminhbfaa
open Go.RowKit Go.Sort Go.Lib

set_option maxRecDepth 100000 in
set_option maxHeartbeats 2000000 in
theorem l6sBefore_f (v v' : Value) (p q z : Int) (w : World) (hp : ∀ W, Below w.heap.size w W → Calls Try.prog 153 #[v] W fun e w' => e = .returned (.int .i64 p) ∧ Below W.heap.size W w')
    (hq : ∀ W, Below w.heap.size w W → Calls Try.prog 153 #[v'] W fun e w' => e = .returned (.int .i64 q) ∧ Below W.heap.size W w')
    (hz : ∀ W, Below w.heap.size w W → Calls Try.prog 147 #[v, v'] W fun e w' => e = .returned (.int .i64 z) ∧ Below W.heap.size W w') :
    Calls Try.prog 142 #[v, v'] w fun e w' => e = .returned (.bool (if p = q then decide (0 < z) else decide (p < q))) ∧ Below w.heap.size w w' := by
  have HP := Lib.hid hp
  have HQ := Lib.hid hq
  have HZ := Lib.hid hz
  clear hp hq hz
  by_cases hpq : p = q
  · subst hpq
    rw [if_pos rfl]
    go_enter Try.func142, Try.ntmps142
    go_wp2_with fail
    with_reducible refine (HP.out _ (Below.refl _ _)).mono ?_
    rintro e w1 ⟨rfl, b1⟩
    go_wp2_with fail
    with_reducible refine (HQ.out _ b1).mono ?_
    rintro e w2 ⟨rfl, b2⟩
    replace b1 := below_then b1 b2
    clear b2
    go_wp2_with fail
    with_reducible refine (HZ.out _ b1).mono ?_
    rintro e w3 ⟨rfl, b2⟩
    replace b1 := below_then b1 b2
    clear b2
    go_wp2_with fail
    go_ret
    exact ⟨rfl, b1⟩
  · have d1 : (p != q) = true := by simpa using hpq
    rw [if_neg hpq]
    clear hpq
    go_enter Try.func142, Try.ntmps142
    go_wp2_with fail
    with_reducible refine (HP.out _ (Below.refl _ _)).mono ?_
    rintro e w1 ⟨rfl, b1⟩
    go_wp2_with fail
    with_reducible refine (HQ.out _ b1).mono ?_
    rintro e w2 ⟨rfl, b2⟩
    replace b1 := below_then b1 b2
    clear b2
    go_wp2_with fail
    with_reducible refine (HP.out _ b1).mono ?_
    rintro e w3 ⟨rfl, b2⟩
    replace b1 := below_then b1 b2
    clear b2
    go_wp2_with fail
    with_reducible refine (HQ.out _ b1).mono ?_
    rintro e w4 ⟨rfl, b2⟩
    replace b1 := below_then b1 b2
    clear b2
    go_wp2_with fail
    go_ret
    exact ⟨rfl, b1⟩
theorem half_bef (a b : Pt) : (if halfN a = halfN b then decide (0 < crs a b) else decide (halfN a < halfN b)) = befB a b := by
  cases ha : upB a <;> cases hb : upB b <;> simp [halfN, befB, ha, hb]
theorem l6sBefore_full (A A' : Option Addr) (c c' : Nat) (r r' : List Int) (w : World) (h : Rd w A 2 r) (h' : Rd w A' 2 r') (hb : ∀ a b : Int, (a = r.getD 0 0 ∨ a = r.getD 1 0) → (b = r'.getD 0 0 ∨ b = r'.getD 1 0) → -1000000 ≤ a * b ∧ a * b ≤ 1000000) :
    Calls Try.prog 142 #[.slice A 2 c, .slice A' 2 c'] w fun e w' => e = .returned (.bool (befB (rowPt r) (rowPt r'))) ∧ Below w.heap.size w w' := by
  rw [← half_bef]
  exact l6sBefore_f _ _ _ _ (crs (rowPt r) (rowPt r')) w (fun W hW => l6sHalf_any A c r W (h.same hW)) (fun W hW => l6sHalf_any A' c' r' W (h'.same hW)) (fun W hW => l6sCross_any A A' c c' r r' W (h.same hW) (h'.same hW) hb)

/-- append as one step of a region that draws; the base is the world in which the region began. -/
theorem step_appX2 {ops : Array Oper} {o : Oper} {a : Act} {K : Act → World → Prop} {Q : Exit → Act → World → Prop} {E : Prop} {W : World} (W0 : World) (hgd : o.guard = none) (s x : Operand)
    (ho : o.op = .call { callee := .builtin .append, args := #[s, x], argTypes := #[23, 23] })
    {n c : Nat} {A : Option Addr} (ks : List Nat) (R : List (List Int)) (hs : a.eval s = .slice A n c) (hown : OwnX W W0.heap.size A n c ks R) {A2 : Option Addr} {m : Nat} {c2 : Nat} (ks2 : List Nat) (R2 : List (List Int)) (hx : a.eval x = .slice A2 m c2) (hr : SrcX W A2 m ks2 R2) (hb : Below W0.heap.size W0 W) (hn : n + m ≤ 1000000)
    (h : ∀ A' c' W', OwnX W' W0.heap.size A' (n + m) c' (ks ++ ks2) (R ++ R2) → Below W0.heap.size W0 W' → W.grownBy W' (Value.slice A n c).ownBlock → K (a.put o.dst (.slice A' (n + m) c')) W') :
    if Region.wanted o (yielded ops a.tmps) = true then Oper.wp Try.prog o a W K Q else E :=
  step_appX hgd s x ho hs hown hx hr hn hb.size fun A' c' W' h1 h2 => h A' c' W' h1 (app_markX hb hown (Nat.le_refl _) h2) h2

abbrev outO : Obj := .cells #[] 30
abbrev rowO (g : Nat) (r : List Int) : Obj := .cells #[rowW g r] 30
theorem SrcX.dr {w : World} {A : Option Addr} {n : Nat} {ks : List Nat} {R : List (List Int)} (h : SrcX w A n ks R) : SrcX w.drew A n ks R := h.same ((Below.refl _ _).drew)
theorem SrcX.al {w : World} {A : Option Addr} {n : Nat} {ks : List Nat} {R : List (List Int)} (h : SrcX w A n ks R) (o : Obj) : SrcX (w.alloc o) A n ks R := h.same (below_alloc (Below.refl _ _) o)
theorem OwnX.dr {w : World} {B n c : Nat} {A : Option Addr} {gs : List Nat} {L : List (List Int)} (h : OwnX w B A n c gs L) : OwnX w.drew B A n c gs L := h.same ((Below.refl _ _).drew)
theorem OwnX.al {w : World} {B n c : Nat} {A : Option Addr} {gs : List Nat} {L : List (List Int)} (h : OwnX w B A n c gs L) (o : Obj) : OwnX (w.alloc o) B A n c gs L := h.same (below_alloc (Below.refl _ _) o)
theorem out_second (wq : World) (o : Obj) : OwnX ((wq.alloc o).alloc outO).drew wq.heap.size (some ⟨wq.heap.size + 1, 0, none⟩) 0 0 [] [] := by
  have h := (OwnX.empty (wq.alloc o) (B := wq.heap.size) (by simp)).dr
  rw [World.size_alloc] at h
  exact h
theorem srcBox {w1 : World} {b gx : Nat} {r : List Int} (hc : w1.cell? ⟨b, 0, none⟩ = some (rowW gx r)) (hb : b < w1.heap.size) (h : RowBlk w1 gx r) : SrcX w1 (some ⟨b, 0, none⟩) 1 [gx] [r] :=
  ⟨rfl, rfl, fun _ => ⟨b, 0, rfl, hb, fun j hj => by
    obtain rfl : j = 0 := by omega
    exact hc⟩, fun i hi => by
    obtain rfl : i = 0 := by omega
    exact h⟩
theorem box_after (wq w1 : World) (gx : Nat) (r : List Int) {n c : Nat} (h : RowBlk wq gx r) (b1 : Below wq.heap.size wq w1) (g1 : ((wq.alloc outO).alloc (rowO gx r)).drew.grownBy w1 (Value.slice (some ⟨wq.heap.size, 0, none⟩) n c).ownBlock) : SrcX w1 (some ⟨wq.heap.size + 1, 0, none⟩) 1 [gx] [r] := by
  have hc : ((wq.alloc outO).alloc (rowO gx r)).drew.cell? ⟨wq.heap.size + 1, 0, none⟩ = some (rowW gx r) := box_two wq outO (rowW gx r) 30
  have hsz : wq.heap.size + 1 < w1.heap.size := Nat.lt_of_lt_of_le (by show _ < ((wq.alloc outO).alloc (rowO gx r)).heap.size; simp) g1.size
  exact srcBox (g1.cell hc (by simp [Value.ownBlock])) hsz (h.kept (grown_of_below b1) (by simp))
theorem box_ahead (wq w1 : World) (gx : Nat) (r : List Int) {n c : Nat} (h : RowBlk wq gx r) (b1 : Below wq.heap.size wq w1) (g1 : ((wq.alloc (rowO gx r)).alloc outO).drew.grownBy w1 (Value.slice (some ⟨wq.heap.size + 1, 0, none⟩) n c).ownBlock) : SrcX w1 (some ⟨wq.heap.size, 0, none⟩) 1 [gx] [r] := by
  have hc : ((wq.alloc (rowO gx r)).alloc outO).drew.cell? ⟨wq.heap.size, 0, none⟩ = some (rowW gx r) := ((below_alloc (Below.refl (wq.alloc (rowO gx r)).heap.size (wq.alloc (rowO gx r))) outO).cell (p := ⟨wq.heap.size, 0, none⟩) (by simp)).trans (box_one wq (rowW gx r) 30)
  have hsz : wq.heap.size < w1.heap.size := Nat.lt_of_lt_of_le (by show _ < ((wq.alloc (rowO gx r)).alloc outO).heap.size; simp; omega) g1.size
  exact srcBox (g1.cell hc (by simp [Value.ownBlock])) hsz (h.kept (grown_of_below b1) (by simp))
theorem box_last (w1 : World) (gx : Nat) (r : List Int) (h : RowBlk w1 gx r) : SrcX (w1.alloc (rowO gx r)) (some ⟨w1.heap.size, 0, none⟩) 1 [gx] [r] :=
  srcBox (box_one w1 (rowW gx r) 30) (by simp) (h.kept (grown_of_below (below_alloc (Below.refl _ _) _)) (by simp))
theorem rowsOf_put (x : Pt) (S : List Pt) (k : Nat) : ([] ++ (rowsOf S).take k ++ [ptRow x]) ++ (rowsOf S).drop k = rowsOf (putP x S k) := by
  unfold rowsOf putP
  rw [List.nil_append, List.map_append, List.map_cons, List.map_take, List.map_drop, List.append_assoc]
  rfl
theorem sl_eq2 {A : Option Addr} {m n c : Nat} (h : m = n) : Value.slice A m c = .slice A n c := by rw [h]

set_option maxRecDepth 100000 in
set_option maxHeartbeats 8000000 in
theorem l7Sorted_any (A : Option Addr) (n c : Nat) (L : List (List Int)) (w : World) (h : RdM w A n L) (hn8 : n ≤ 1000) (hst : stepsB L = true) :
    Calls Try.prog 116 #[.slice A n c] w fun e w' => ∃ A' c' gs, e = .returned (.slice A' n c') ∧ OwnM w' w.heap.size A' n c' gs (rowsOf (srt (ptsL L))) ∧ Below w.heap.size w w' := by
  have H0 := Lib.hid (OwnM.empty w (B := w.heap.size) (Nat.le_refl _))
  have B0 := Lib.hid (below_alloc (Below.refl w.heap.size w) (.cells #[] 30))
  have HL := Lib.hid h.1
  have HR := Lib.hid h
  have HPL := Lib.hid (show (ptsL L).length = n by simp [h.1])
  have HST := Lib.hid (fun i (hi : i < n) => (show stepRow (rowL L i) = true ∧ atP (ptsL L) i = rowPt (rowL L i) from ⟨stepsB_at hst (by rw [h.1]; exact hi), ptsL_at (by rw [h.1]; exact hi)⟩))
  have HSP := Lib.hid (show ∀ s ∈ ptsL L, stepP s from fun s hs => by
    obtain ⟨r, hr, rfl⟩ := List.mem_map.1 hs
    exact (stepRow_pt (List.all_eq_true.1 hst r hr)).1)
  generalize ptsL L = l at *
  clear h hst
  go_enter Try.func116, Try.ntmps116
  go_wp2_with fail
  go_loopw [3, 4, 5, 6] (fun sl i _ _ wr => ∃ (k g c' : Nat) (gs : List Nat), k ≤ n ∧ sl = .slice (some ⟨g, 0, none⟩) k c' ∧ i = .int .i64 k ∧ OwnM wr w.heap.size (some ⟨g, 0, none⟩) k c' gs (rowsOf (srt (l.take k))) ∧ Below w.heap.size w wr) (fun _ i _ _ _ => n - (intOf i).toNat)
  case atStart => exact ⟨0, _, 0, [], Nat.zero_le _, rfl, rfl, H0.out, B0.out⟩
  case round =>
    obtain ⟨k, g, c', gs, hk, rfl, rfl, ho, hb⟩ := hrel
    by_cases hlt : k < n
    · obtain ⟨b, off, rfl, hbl, hc⟩ := HR.out.2 (by omega)
      obtain ⟨A1, c1, x1, r1⟩ := hc k hlt
      obtain ⟨hs1, hs2⟩ := HST.out k hlt
      have hr2 := stepRow_pt hs1
      rw [hr2.2] at x1 r1
      obtain ⟨b1, off1, rfl, hbl1, hc1⟩ := r1.2 (by omega)
      have hkl : k < l.length := by rw [HPL.out]; exact hlt
      have HKL := Lib.hid hkl
      have HTS := Lib.hid (srt_take_len (l := l) (i := k) (by omega))
      have HSD := Lib.hid (show srt (l.take (k + 1)) = putP (atP l k) (srt (l.take k)) (kP (atP l k) (srt (l.take k)) k) by
        rw [List.take_succ_eq_append_getElem hkl, srt_snoc, ← atP_lt hkl]; unfold insP; rw [HTS.out])
      have HME := Lib.hid (fun j (hj : j < k) => HSP.out _ (srt_mem (l := l) (i := k) (k := j) (by omega) hj))
      have HX := Lib.hid (show stepP (atP l k) by rw [hs2]; exact hr2.1)
      have hq0 := (hc1 0 (by omega))
      have hq1 := (hc1 1 (by omega))
      rw [Nat.add_zero] at hq0
      have e0 : (rowL L k).getD 0 0 = (atP l k).1 := by rw [hs2]
      have e1 : (rowL L k).getD 1 0 = (atP l k).2 := by rw [hs2]
      rw [e0] at hq0
      rw [e1] at hq1
      have HRW := Lib.hid (show Rd w (some ⟨b1, off1, none⟩) 2 (rowL L k) from r1)
      have HRP := Lib.hid (show rowPt (rowL L k) = atP l k from hs2.symm)
      obtain ⟨S, eS⟩ : ∃ S, S = srt (l.take k) := ⟨_, rfl⟩
      rw [← eS] at ho HTS HSD HME
      generalize atP l k = x at *
      have HCX := Lib.hid (show w.cell? ⟨b, off + k, none⟩ = some (.slice (some ⟨b1, off1, none⟩) 2 c1) ∧ w.cell? ⟨b1, off1, none⟩ = some (.int .i64 x.1) ∧ w.cell? ⟨b1, off1 + 1, none⟩ = some (.int .i64 x.2) from ⟨x1, hq0, hq1⟩)
      have HB := Lib.hid hb
      have HO := Lib.hid ho
      have hcap := ho.x.cap
      have HD2 := Lib.hid (e0.symm.trans rfl)
      clear hc x1 r1 hc1 hs1 hs2 hr2 hq0 hq1 e0 e1 hb ho hkl eS HD2
      generalize rowL L k = rk at *
      go_wp2_with fail
      go_loopw [5] (fun i wr => ∃ j : Nat, j ≤ k ∧ i = .int .i64 j ∧ kP x S j = kP x S k ∧ OwnM wr w.heap.size (some ⟨g, 0, none⟩) k c' gs (rowsOf S) ∧ Below w.heap.size w wr) (fun i _ => (intOf i).toNat)
      case atStart => exact ⟨k, Nat.le_refl _, rfl, rfl, HO.out, HB.out⟩
      case round =>
        obtain ⟨j, hj, rfl, hp, ho, hb⟩ := hrel
        have HJ := Lib.hid hp
        clear hp
        by_cases hj0 : j = 0
        · have HSTOP := Lib.hid (show kP x S k = j from HJ.out.symm.trans (by rw [hj0]; rfl))
          have d0 : decide (j > 0) = false := by simp; omega
          have d0' : decide ((j : Int) > 0) = false := by simp; omega
          have HOW := Lib.hid ho
          have HBW := Lib.hid hb
          clear ho hb hj0
          go_wp2_with fail
          refine wp_region_quiet_below (by kernel_rfl) (by kernel_rfl) ?_
          repeat (go_big_quiet_step (fail))
          refine wpQuiet_nil ?_
          intro _ hw'
          obtain ⟨⟨dq, osq⟩, hw''⟩ := hw'
          subst hw''
          have bq := below_regrown wr dq osq
          generalize Go.Sort.grow (redrawn wr dq) osq = wq at bq ⊢
          have ho' := HOW.out.same bq
          have hb' := HBW.out.trans (bq.mono HBW.out.size)
          have k0 := (hb'.cell (p := ⟨b, off + k, none⟩) hbl).trans HCX.out.1
          have k1 := (hb'.cell (p := ⟨b1, off1, none⟩) hbl1).trans HCX.out.2.1
          have k2 := (hb'.cell (p := ⟨b1, off1 + 1, none⟩) hbl1).trans HCX.out.2.2
          have HO1 := Lib.hid ho'
          have HB1 := Lib.hid hb'
          have HE := Lib.hid (show ((rowsOf S).take j ++ [[x.1, x.2]]) ++ (rowsOf S).drop j = rowsOf (srt (l.take (k + 1))) by rw [HSD.out, HSTOP.out]; exact rowsOf_put x S j)
          generalize x.1 = px at *
          generalize x.2 = py at *
          clear ho' hb' bq
          go_wp2_with fail
          go_region
          have hrow := Lib.hid (show RowBlk (wq.alloc (.cells (ints [px, py]).toArray 3)).drew wq.heap.size [px, py] from (RowBlk.made wq [px, py] (by simp)).kept (grown_of_below ((Below.refl _ _).drew)) (by simp))
          have HOZ := Lib.hid (show OwnM (wq.alloc (.cells (ints [px, py]).toArray 3)).drew w.heap.size (some ⟨g, 0, none⟩) k c' gs (rowsOf S) from (HO1.out.al _).same ((Below.refl _ _).drew))
          have HBZ := Lib.hid (show Below w.heap.size w (wq.alloc (.cells (ints [px, py]).toArray 3)).drew from (below_alloc HB1.out _).drew)
          have hgx : wq.heap.size ∉ gs := fun hm => by have := (HO1.out.mem hm).2; omega
          have hgw : w.heap.size ≤ wq.heap.size := HB1.out.size
          change Exit.then _ _ _ _ (wq.alloc (.cells (ints [px, py]).toArray 3)).drew
          generalize (wq.alloc (.cells (ints [px, py]).toArray 3)).drew = wz at *
          generalize wq.heap.size = gx at *
          clear k0 k1 k2
          have hcj : k ≤ c' := hcap
          have hz0 : wz.heap.size ≤ wz.heap.size := Nat.le_refl _
          have HOM := Lib.hid (fun (W : World) (A' : Option Addr) (c3 : Nat) (o3 : OwnX W wz.heap.size A' (j + 1 + (k - j)) c3 ((gs.take j ++ [gx]) ++ gs.drop j) (((rowsOf S).take j ++ [[px, py]]) ++ (rowsOf S).drop j)) (_ : wz.heap.size ≤ W.heap.size) => (show ∃ g3, A' = some ⟨g3, 0, none⟩ ∧ OwnM W w.heap.size (some ⟨g3, 0, none⟩) (k + 1) c3 ((gs.take j ++ [gx]) ++ gs.drop j) (rowsOf (srt (l.take (k + 1)))) from by
            rw [HE.out, show j + 1 + (k - j) = k + 1 by omega] at o3
            have hpm : ((gs.take j ++ [gx]) ++ gs.drop j).Perm (gx :: gs) := by
              rw [List.append_assoc]
              conv => rhs; rw [← List.take_append_drop j gs]
              exact List.perm_middle
            have hm := (o3.lower HBZ.out.size).m (hpm.nodup_iff.2 (List.nodup_cons.2 ⟨hgx, HOZ.out.nodup⟩)) (fun q hq => by
              rcases List.mem_cons.1 (hpm.mem_iff.1 hq) with rfl | hq
              · exact hgw
              · exact (HOZ.out.mem hq).1)
            obtain ⟨g3, rfl, _⟩ := hm.at_ (i := 0) (by omega)
            exact ⟨g3, rfl, hm⟩))
          have e1 : (j : Int) ≤ (c' : Int) := by omega
          have e2 : (j : Int) ≤ (k : Int) := by omega
          have e3 : (0 : Int) ≤ (j : Int) := by omega
          have rT := Lib.hid (HOZ.out.x.src.take (k := j) hj)
          clear hgx hgw
          by_cases hcJ : c' = j
          · obtain rfl : k = j := by omega
            subst hcJ
            have rD : Hid (SrcX wz (some ⟨g, 0, none⟩) 0 (gs.drop c') ((rowsOf S).drop c')) := by
              rw [List.drop_eq_nil_of_le (by rw [HOZ.out.len, rowsOf_len, HTS.out]; exact Nat.le_refl _), List.drop_eq_nil_of_le (by rw [rowsOf_len, HTS.out]; exact Nat.le_refl _)]
              exact SrcX.nil_ _ _
            go_wp2_with fail
            go_region_law (first | (refine step_appX2 wz (c2 := c') rfl (.tmp 45) (.tmp 48) rfl [] [] rfl ?_ (gs.take c') ((rowsOf S).take c') rfl ?_ ?_ ?_ ?_; (· first | exact (OwnX.empty wz hz0).dr | exact ((OwnX.empty wz hz0).al _).dr | exact out_second wz _); (· first | exact (rT.out.al _).dr | exact ((rT.out.al _).al _).dr); (· first | exact (below_alloc (Below.refl _ _) _).drew | exact (below_alloc (below_alloc (Below.refl _ _) _) _).drew); (· omega); intro A1 c1 w1 o1 b1 g1; simp only [Nat.zero_add, List.nil_append] at o1; (first | have q1 := box_after wz w1 gx [px, py] hrow.out b1 g1 | have q1 := box_ahead wz w1 gx [px, py] hrow.out b1 g1 | skip); have hr1 := hrow.out.kept (grown_of_below b1) (by simp); clear g1) | (refine step_appX2 wz (c2 := 1) rfl (.tmp 49) (.tmp 51) rfl (gs.take c') ((rowsOf S).take c') rfl ?_ [gx] [[px, py]] rfl ?_ ?_ ?_ ?_; (· first | exact o1 | exact o1.al _ | exact o1.dr | exact (o1.al _).dr); (· first | exact q1 | exact q1.dr | exact box_last _ _ _ hr1 | exact (box_last _ _ _ hr1).dr); (· first | exact b1 | exact b1.drew | exact below_alloc b1 _ | exact (below_alloc b1 _).drew); (· omega); intro A2 c2 w2 o2 b2 g2; clear g2) | (refine step_appX2 wz (c2 := 0) rfl (.tmp 52) (.tmp 55) rfl (gs.take c' ++ [gx]) ((rowsOf S).take c' ++ [[px, py]]) rfl ?_ (gs.drop c') ((rowsOf S).drop c') rfl ?_ ?_ ?_ ?_; (· first | exact o2 | exact o2.dr); (· first | exact rD.out.same b2 | exact (rD.out.same b2).dr); (· first | exact b2 | exact b2.drew); (· omega); intro A3 c3 w3 o3 b3 g3; clear g3))
            all_goals
              have hm3 := HOM.out w3 A3 c3 (by first | exact o3 | simpa using o3) b3.size
              have b4 := HBZ.out.trans (b3.mono HBZ.out.size)
              obtain ⟨g3, rfl, hm4⟩ := hm3
              have HO4 := Lib.hid hm4
              clear hm4 o3 b3
              go_wp2_with fail
              go_roundw
              case rel =>
                first
                  | exact ⟨c' + 1, g3, c3, _, by omega, sl_eq2 (by omega), by go_num, HO4.out, b4⟩
                  | ((repeat apply Exists.intro); exact ⟨⟨c' + 1, g3, c3, _, by omega, sl_eq2 (by omega), by go_num, HO4.out, b4⟩, rfl⟩)
              case measure => simp [intOf]; omega
          · have e6 : ¬ (c' = j) := hcJ
            have e5 : ¬ (j = c') := fun e => hcJ e.symm
            have rD : Hid (SrcX wz (some ⟨g, j, none⟩) (k - j) (gs.drop j) ((rowsOf S).drop j)) := by have := HOZ.out.x.src.drop (k := j) hj; rw [Nat.zero_add] at this; exact this
            go_wp2_with fail
            go_region_law (first | (refine step_appX2 wz (c2 := c') rfl (.tmp 45) (.tmp 48) rfl [] [] rfl ?_ (gs.take j) ((rowsOf S).take j) rfl ?_ ?_ ?_ ?_; (· first | exact (OwnX.empty wz hz0).dr | exact ((OwnX.empty wz hz0).al _).dr | exact out_second wz _); (· first | exact (rT.out.al _).dr | exact ((rT.out.al _).al _).dr); (· first | exact (below_alloc (Below.refl _ _) _).drew | exact (below_alloc (below_alloc (Below.refl _ _) _) _).drew); (· omega); intro A1 c1 w1 o1 b1 g1; simp only [Nat.zero_add, List.nil_append] at o1; (first | have q1 := box_after wz w1 gx [px, py] hrow.out b1 g1 | have q1 := box_ahead wz w1 gx [px, py] hrow.out b1 g1 | skip); have hr1 := hrow.out.kept (grown_of_below b1) (by simp); clear g1) | (refine step_appX2 wz (c2 := 1) rfl (.tmp 49) (.tmp 51) rfl (gs.take j) ((rowsOf S).take j) rfl ?_ [gx] [[px, py]] rfl ?_ ?_ ?_ ?_; (· first | exact o1 | exact o1.al _ | exact o1.dr | exact (o1.al _).dr); (· first | exact q1 | exact q1.dr | exact box_last _ _ _ hr1 | exact (box_last _ _ _ hr1).dr); (· first | exact b1 | exact b1.drew | exact below_alloc b1 _ | exact (below_alloc b1 _).drew); (· omega); intro A2 c2 w2 o2 b2 g2; clear g2) | (refine step_appX2 wz (c2 := c' - j) rfl (.tmp 52) (.tmp 55) rfl (gs.take j ++ [gx]) ((rowsOf S).take j ++ [[px, py]]) rfl ?_ (gs.drop j) ((rowsOf S).drop j) rfl ?_ ?_ ?_ ?_; (· first | exact o2 | exact o2.dr); (· first | exact rD.out.same b2 | exact (rD.out.same b2).dr); (· first | exact b2 | exact b2.drew); (· omega); intro A3 c3 w3 o3 b3 g3; clear g3))
            all_goals
              have hm3 := HOM.out w3 A3 c3 (by first | exact o3 | simpa using o3) b3.size
              have b4 := HBZ.out.trans (b3.mono HBZ.out.size)
              obtain ⟨g3, rfl, hm4⟩ := hm3
              have HO4 := Lib.hid hm4
              clear hm4 o3 b3
              go_wp2_with fail
              go_roundw
              case rel =>
                first
                  | exact ⟨k + 1, g3, c3, _, by omega, sl_eq2 (by omega), by go_num, HO4.out, b4⟩
                  | ((repeat apply Exists.intro); exact ⟨⟨k + 1, g3, c3, _, by omega, sl_eq2 (by omega), by go_num, HO4.out, b4⟩, rfl⟩)
              case measure => simp [intOf]; omega
        · obtain ⟨m, hjm⟩ : ∃ m, j = m + 1 := ⟨j - 1, by omega⟩
          have hmk : m < k := by omega
          obtain ⟨g', e, _, _, hcy⟩ := ho.at_ (i := m) hmk
          cases e
          have hrl : rowL (rowsOf S) m = ptRow (atP S m) := rowsOf_at (by rw [HTS.out]; exact hmk)
          have hry := (ho.rows m (by rw [rowsOf_len, HTS.out]; exact hmk)).2.rd
          rw [hrl] at hcy hry
          have hpy := HME.out m hmk
          have hsq : ∀ a b : Int, (a = rk.getD 0 0 ∨ a = rk.getD 1 0) → (b = (ptRow (atP S m)).getD 0 0 ∨ b = (ptRow (atP S m)).getD 1 0) → -1000000 ≤ a * b ∧ a * b ≤ 1000000 := fun a b ha hb => by
            have h1 := HX.out
            have e0 : rk.getD 0 0 = x.1 := by rw [← HRP.out]
            have e1 : rk.getD 1 0 = x.2 := by rw [← HRP.out]
            rw [e0, e1] at ha
            have hb2 : b = (atP S m).1 ∨ b = (atP S m).2 := hb
            unfold stepP at h1 hpy
            have := mul_sq (a := a) (b := b) (A := 9) (B := 9) (by rcases ha with rfl | rfl <;> omega) (by rcases ha with rfl | rfl <;> omega) (by rcases hb2 with rfl | rfl <;> omega) (by rcases hb2 with rfl | rfl <;> omega)
            omega
          have hBf := fun W (hW : Below wr.heap.size wr W) => l6sBefore_full (some ⟨b1, off1, none⟩) (some ⟨gs.getD m 0, 0, none⟩) c1 2 rk (ptRow (atP S m)) W (HRW.out.same (hb.trans (hW.mono hb.size))) (hry.same hW) hsq
          have e2 : befB (rowPt rk) (rowPt (ptRow (atP S m))) = befB x (atP S m) := by rw [HRP.out]; rfl
          rw [e2] at hBf
          have kno := fun (hb : befB x (atP S m) = false) => kP_no (x := x) (S := S) (k := m) hb
          have kye := fun (hb : befB x (atP S m) = true) => kP_yes (x := x) (S := S) (k := m) hb
          rw [← hjm] at kno kye
          generalize hbz : befB x (atP S m) = bz at *
          clear hbz
          have HNO := Lib.hid kno
          have HYE := Lib.hid kye
          have cE : ∀ d os, Calls Try.prog 142 #[.slice (some ⟨b1, off1, none⟩) 2 c1, .slice (some ⟨gs.getD m 0, 0, none⟩) 2 2] (grow (redrawn wr d) os) fun e w'' => e = .returned (.bool bz) ∧ ∃ p : Regrown, w'' = grow (redrawn wr p.d) p.os := fun d os => Calls.regrown_of (hBf _ (below_regrown wr d os))
          have y1 : ∀ d os, (grow (redrawn wr d) os).cell? ⟨b, off + k, none⟩ = some (.slice (some ⟨b1, off1, none⟩) 2 c1) := fun d os => cell_regrown ((hb.cell (p := ⟨b, off + k, none⟩) hbl).trans HCX.out.1) d os
          have y2 : ∀ d os, (grow (redrawn wr d) os).cell? ⟨g, m, none⟩ = some (.slice (some ⟨gs.getD m 0, 0, none⟩) 2 2) := fun d os => cell_regrown hcy d os
          have v1 : IntKind.i64.wrap ((j : Int) - 1) = (m : Int) := wrap_is (by omega) (by omega) (by omega)
          have d0 : decide (j > 0) = true := by simp; omega
          have d0' : decide ((j : Int) > 0) = true := by simp; omega
          have hmj : m < j := by omega
          have HJM := Lib.hid hjm
          have HOW := Lib.hid ho
          have HBW := Lib.hid hb
          clear ho hb hcy hry hrl hpy hsq hBf kno kye hjm hj0 e2
          generalize gs.getD m 0 = gm at *
          cases bz with
          | true =>
            go_wp2_with fail
            refine wp_region_quiet_below (by kernel_rfl) (by kernel_rfl) ?_
            repeat (go_big_quiet_step (first | with_reducible exact cE _ _ | exact ⟨fun h => (by cases h), cE _ _⟩))
            refine wpQuiet_nil ?_
            intro _ hw'
            obtain ⟨⟨dq, osq⟩, hw''⟩ := hw'
            subst hw''
            have bq := below_regrown wr dq osq
            generalize Go.Sort.grow (redrawn wr dq) osq = wq at bq ⊢
            go_wp2_with fail
            go_roundw
            case rel =>
              have e1 := HYE.out (by first | rfl | trivial)
              first
                | exact ⟨m, by omega, by go_num, e1.symm.trans HJ.out, HOW.out.same bq, HBW.out.trans (bq.mono HBW.out.size)⟩
                | ((repeat apply Exists.intro); exact ⟨⟨m, by omega, by go_num, e1.symm.trans HJ.out, HOW.out.same bq, HBW.out.trans (bq.mono HBW.out.size)⟩, rfl⟩)
            case measure => simp [intOf]; omega
          | false =>
            have HSTOP := Lib.hid (show kP x S k = j from HJ.out.symm.trans (HNO.out (by first | rfl | trivial)))
            go_wp2_with fail
            refine wp_region_quiet_below (by kernel_rfl) (by kernel_rfl) ?_
            repeat (go_big_quiet_step (first | with_reducible exact cE _ _ | exact ⟨fun h => (by cases h), cE _ _⟩))
            refine wpQuiet_nil ?_
            intro _ hw'
            obtain ⟨⟨dq, osq⟩, hw''⟩ := hw'
            subst hw''
            have bq := below_regrown wr dq osq
            generalize Go.Sort.grow (redrawn wr dq) osq = wq at bq ⊢
            have ho' := HOW.out.same bq
            have hb' := HBW.out.trans (bq.mono HBW.out.size)
            clear y1 y2 cE
            have k0 := (hb'.cell (p := ⟨b, off + k, none⟩) hbl).trans HCX.out.1
            have k1 := (hb'.cell (p := ⟨b1, off1, none⟩) hbl1).trans HCX.out.2.1
            have k2 := (hb'.cell (p := ⟨b1, off1 + 1, none⟩) hbl1).trans HCX.out.2.2
            have HO1 := Lib.hid ho'
            have HB1 := Lib.hid hb'
            have HE := Lib.hid (show ((rowsOf S).take j ++ [[x.1, x.2]]) ++ (rowsOf S).drop j = rowsOf (srt (l.take (k + 1))) by rw [HSD.out, HSTOP.out]; exact rowsOf_put x S j)
            generalize x.1 = px at *
            generalize x.2 = py at *
            clear ho' hb' bq
            go_wp2_with fail
            go_region
            have hrow := Lib.hid (show RowBlk (wq.alloc (.cells (ints [px, py]).toArray 3)).drew wq.heap.size [px, py] from (RowBlk.made wq [px, py] (by simp)).kept (grown_of_below ((Below.refl _ _).drew)) (by simp))
            have HOZ := Lib.hid (show OwnM (wq.alloc (.cells (ints [px, py]).toArray 3)).drew w.heap.size (some ⟨g, 0, none⟩) k c' gs (rowsOf S) from (HO1.out.al _).same ((Below.refl _ _).drew))
            have HBZ := Lib.hid (show Below w.heap.size w (wq.alloc (.cells (ints [px, py]).toArray 3)).drew from (below_alloc HB1.out _).drew)
            have hgx : wq.heap.size ∉ gs := fun hm => by have := (HO1.out.mem hm).2; omega
            have hgw : w.heap.size ≤ wq.heap.size := HB1.out.size
            change Exit.then _ _ _ _ (wq.alloc (.cells (ints [px, py]).toArray 3)).drew
            generalize (wq.alloc (.cells (ints [px, py]).toArray 3)).drew = wz at *
            generalize wq.heap.size = gx at *
            clear k0 k1 k2
            have hcj : k ≤ c' := hcap
            have hz0 : wz.heap.size ≤ wz.heap.size := Nat.le_refl _
            have HOM := Lib.hid (fun (W : World) (A' : Option Addr) (c3 : Nat) (o3 : OwnX W wz.heap.size A' (j + 1 + (k - j)) c3 ((gs.take j ++ [gx]) ++ gs.drop j) (((rowsOf S).take j ++ [[px, py]]) ++ (rowsOf S).drop j)) (_ : wz.heap.size ≤ W.heap.size) => (show ∃ g3, A' = some ⟨g3, 0, none⟩ ∧ OwnM W w.heap.size (some ⟨g3, 0, none⟩) (k + 1) c3 ((gs.take j ++ [gx]) ++ gs.drop j) (rowsOf (srt (l.take (k + 1)))) from by
              rw [HE.out, show j + 1 + (k - j) = k + 1 by omega] at o3
              have hpm : ((gs.take j ++ [gx]) ++ gs.drop j).Perm (gx :: gs) := by
                rw [List.append_assoc]
                conv => rhs; rw [← List.take_append_drop j gs]
                exact List.perm_middle
              have hm := (o3.lower HBZ.out.size).m (hpm.nodup_iff.2 (List.nodup_cons.2 ⟨hgx, HOZ.out.nodup⟩)) (fun q hq => by
                rcases List.mem_cons.1 (hpm.mem_iff.1 hq) with rfl | hq
                · exact hgw
                · exact (HOZ.out.mem hq).1)
              obtain ⟨g3, rfl, _⟩ := hm.at_ (i := 0) (by omega)
              exact ⟨g3, rfl, hm⟩))
            have e1 : (j : Int) ≤ (c' : Int) := by omega
            have e2 : (j : Int) ≤ (k : Int) := by omega
            have e3 : (0 : Int) ≤ (j : Int) := by omega
            have rT := Lib.hid (HOZ.out.x.src.take (k := j) hj)
            clear hgx hgw
            by_cases hcJ : c' = j
            · obtain rfl : k = j := by omega
              subst hcJ
              have rD : Hid (SrcX wz (some ⟨g, 0, none⟩) 0 (gs.drop c') ((rowsOf S).drop c')) := by
                rw [List.drop_eq_nil_of_le (by rw [HOZ.out.len, rowsOf_len, HTS.out]; exact Nat.le_refl _), List.drop_eq_nil_of_le (by rw [rowsOf_len, HTS.out]; exact Nat.le_refl _)]
                exact SrcX.nil_ _ _
              go_wp2_with fail
              go_region_law (first | (refine step_appX2 wz (c2 := c') rfl (.tmp 45) (.tmp 48) rfl [] [] rfl ?_ (gs.take c') ((rowsOf S).take c') rfl ?_ ?_ ?_ ?_; (· first | exact (OwnX.empty wz hz0).dr | exact ((OwnX.empty wz hz0).al _).dr | exact out_second wz _); (· first | exact (rT.out.al _).dr | exact ((rT.out.al _).al _).dr); (· first | exact (below_alloc (Below.refl _ _) _).drew | exact (below_alloc (below_alloc (Below.refl _ _) _) _).drew); (· omega); intro A1 c1 w1 o1 b1 g1; simp only [Nat.zero_add, List.nil_append] at o1; (first | have q1 := box_after wz w1 gx [px, py] hrow.out b1 g1 | have q1 := box_ahead wz w1 gx [px, py] hrow.out b1 g1 | skip); have hr1 := hrow.out.kept (grown_of_below b1) (by simp); clear g1) | (refine step_appX2 wz (c2 := 1) rfl (.tmp 49) (.tmp 51) rfl (gs.take c') ((rowsOf S).take c') rfl ?_ [gx] [[px, py]] rfl ?_ ?_ ?_ ?_; (· first | exact o1 | exact o1.al _ | exact o1.dr | exact (o1.al _).dr); (· first | exact q1 | exact q1.dr | exact box_last _ _ _ hr1 | exact (box_last _ _ _ hr1).dr); (· first | exact b1 | exact b1.drew | exact below_alloc b1 _ | exact (below_alloc b1 _).drew); (· omega); intro A2 c2 w2 o2 b2 g2; clear g2) | (refine step_appX2 wz (c2 := 0) rfl (.tmp 52) (.tmp 55) rfl (gs.take c' ++ [gx]) ((rowsOf S).take c' ++ [[px, py]]) rfl ?_ (gs.drop c') ((rowsOf S).drop c') rfl ?_ ?_ ?_ ?_; (· first | exact o2 | exact o2.dr); (· first | exact rD.out.same b2 | exact (rD.out.same b2).dr); (· first | exact b2 | exact b2.drew); (· omega); intro A3 c3 w3 o3 b3 g3; clear g3))
              all_goals
                have hm3 := HOM.out w3 A3 c3 (by first | exact o3 | simpa using o3) b3.size
                have b4 := HBZ.out.trans (b3.mono HBZ.out.size)
                obtain ⟨g3, rfl, hm4⟩ := hm3
                have HO4 := Lib.hid hm4
                clear hm4 o3 b3
                go_wp2_with fail
                go_roundw
                case rel =>
                  first
                    | exact ⟨c' + 1, g3, c3, _, by omega, sl_eq2 (by omega), by go_num, HO4.out, b4⟩
                    | ((repeat apply Exists.intro); exact ⟨⟨c' + 1, g3, c3, _, by omega, sl_eq2 (by omega), by go_num, HO4.out, b4⟩, rfl⟩)
                case measure => simp [intOf]; omega
            · have e6 : ¬ (c' = j) := hcJ
              have e5 : ¬ (j = c') := fun e => hcJ e.symm
              have rD : Hid (SrcX wz (some ⟨g, j, none⟩) (k - j) (gs.drop j) ((rowsOf S).drop j)) := by have := HOZ.out.x.src.drop (k := j) hj; rw [Nat.zero_add] at this; exact this
              go_wp2_with fail
              go_region_law (first | (refine step_appX2 wz (c2 := c') rfl (.tmp 45) (.tmp 48) rfl [] [] rfl ?_ (gs.take j) ((rowsOf S).take j) rfl ?_ ?_ ?_ ?_; (· first | exact (OwnX.empty wz hz0).dr | exact ((OwnX.empty wz hz0).al _).dr | exact out_second wz _); (· first | exact (rT.out.al _).dr | exact ((rT.out.al _).al _).dr); (· first | exact (below_alloc (Below.refl _ _) _).drew | exact (below_alloc (below_alloc (Below.refl _ _) _) _).drew); (· omega); intro A1 c1 w1 o1 b1 g1; simp only [Nat.zero_add, List.nil_append] at o1; (first | have q1 := box_after wz w1 gx [px, py] hrow.out b1 g1 | have q1 := box_ahead wz w1 gx [px, py] hrow.out b1 g1 | skip); have hr1 := hrow.out.kept (grown_of_below b1) (by simp); clear g1) | (refine step_appX2 wz (c2 := 1) rfl (.tmp 49) (.tmp 51) rfl (gs.take j) ((rowsOf S).take j) rfl ?_ [gx] [[px, py]] rfl ?_ ?_ ?_ ?_; (· first | exact o1 | exact o1.al _ | exact o1.dr | exact (o1.al _).dr); (· first | exact q1 | exact q1.dr | exact box_last _ _ _ hr1 | exact (box_last _ _ _ hr1).dr); (· first | exact b1 | exact b1.drew | exact below_alloc b1 _ | exact (below_alloc b1 _).drew); (· omega); intro A2 c2 w2 o2 b2 g2; clear g2) | (refine step_appX2 wz (c2 := c' - j) rfl (.tmp 52) (.tmp 55) rfl (gs.take j ++ [gx]) ((rowsOf S).take j ++ [[px, py]]) rfl ?_ (gs.drop j) ((rowsOf S).drop j) rfl ?_ ?_ ?_ ?_; (· first | exact o2 | exact o2.dr); (· first | exact rD.out.same b2 | exact (rD.out.same b2).dr); (· first | exact b2 | exact b2.drew); (· omega); intro A3 c3 w3 o3 b3 g3; clear g3))
              all_goals
                have hm3 := HOM.out w3 A3 c3 (by first | exact o3 | simpa using o3) b3.size
                have b4 := HBZ.out.trans (b3.mono HBZ.out.size)
                obtain ⟨g3, rfl, hm4⟩ := hm3
                have HO4 := Lib.hid hm4
                clear hm4 o3 b3
                go_wp2_with fail
                go_roundw
                case rel =>
                  first
                    | exact ⟨k + 1, g3, c3, _, by omega, sl_eq2 (by omega), by go_num, HO4.out, b4⟩
                    | ((repeat apply Exists.intro); exact ⟨⟨k + 1, g3, c3, _, by omega, sl_eq2 (by omega), by go_num, HO4.out, b4⟩, rfl⟩)
                case measure => simp [intOf]; omega
    · obtain rfl : k = n := by omega
      have HE := Lib.hid ho
      clear ho
      go_wp2_with fail
      go_ret
      have := HE.out
      rw [List.take_of_length_le (by rw [HPL.out]; exact Nat.le_refl _)] at this
      exact ⟨_, _, _, rfl, this, hb⟩
end Go.Proofs.Ytdnegamminhbfaa
