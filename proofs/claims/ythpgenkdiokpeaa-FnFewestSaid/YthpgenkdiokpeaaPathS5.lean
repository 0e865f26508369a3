/- The model's turned paths. -/
import Derived.Test.YthpgenkdiokpeaaPathS
import Derived.Deep.RegionLaw
namespace Go.Proofs.Ythpgenkdiokpeaa
open Go.RowKit Go.Sort Go.Lib

theorem run_appRowM {W : World} {B n c : Nat} {A : Option Addr} {gs : List Nat} {L : List (List Int)} (hown : OwnM W B A n c gs L) {b g c2 : Nat} {r : List Int} (hc : W.cell? ⟨b, 0, none⟩ = some (rowW g r)) (ht : RowBlk W g r) (hg : B ≤ g) (hni : g ∉ gs)
    (hn : n ≤ 1000000) (hB : B ≤ W.heap.size) (ty : TypeId) :
    ∃ A' c' W', (Builtin.append_ #[23, 23] ty #[.slice A n c, .slice (some ⟨b, 0, none⟩) 1 c2]).run Try.prog W = .ok (.slice A' (n + 1) c') W' ∧ OwnM W' B A' (n + 1) c' (gs ++ [g]) (L ++ [r]) ∧ W.grownBy W' (Value.slice A n c).ownBlock := by
  obtain ⟨i0, hi, hz0, hz1, hz2⟩ := info_parts rowsInfo
  obtain ⟨v', w', hrun, r1, g1, _, _⟩ := Go.run_append_own_at (P := Try.prog) W B 23 ty 31 i0 (.slice none 0 0) 1 24 Try.underlying23 hi hz0 hz1 hz2 rfl (by decide) (.slice A n c) n ((gs.zip L).map fun p => rowW p.1 p.2) hown.row ⟨b, 0, none⟩ 1 c2 [rowW g r] rfl (fun j u hu => by
    match j, hu with
    | 0, hu =>
      obtain rfl : rowW g r = u := by simpa using hu
      simpa [Addr.add] using hc) (fun u hu => by
    obtain rfl : u = rowW g r := by simpa using hu
    rfl) (by unfold maxLen; omega) (by omega) hB
  have hL := hown.n
  have hgl : gs.length = n := by rw [hown.len]; exact hL
  have e1 : (gs.zip L).map (fun p => rowW p.1 p.2) ++ [rowW g r] = ((gs ++ [g]).zip (L ++ [r])).map fun p => rowW p.1 p.2 := by
    rw [List.zip_append hown.len, List.map_append]; rfl
  rw [e1] at r1
  obtain ⟨A', c', rfl⟩ : ∃ A' c', v' = .slice A' (n + 1) c' := by
    rcases r1.2 with ⟨_, e⟩ | ⟨g', cap, cur, e, _⟩
    · omega
    · exact ⟨_, _, e⟩
  refine ⟨A', c', w', hrun, ⟨r1, by simp [hown.len], ?_, fun i hi => ?_⟩, g1⟩
  · rw [List.nodup_append]
    exact ⟨hown.nodup, by simp, fun a ha b hb e => by
      obtain rfl : b = g := by simpa using hb
      subst e; exact hni ha⟩
  · by_cases hlt : i < n
    · have e2 : (gs ++ [g]).getD i 0 = gs.getD i 0 := by simp [List.getD_eq_getElem?_getD, List.getElem?_append_left (show i < gs.length by omega)]
      have e3 : rowL (L ++ [r]) i = rowL L i := by unfold rowL; simp [List.getD_eq_getElem?_getD, List.getElem?_append_left (show i < L.length by omega)]
      rw [e2, e3]
      obtain ⟨q1, q2⟩ := hown.rows i (by omega)
      exact ⟨q1, q2.kept g1 (hown.ne q2).symm⟩
    · obtain rfl : i = n := by simp at hi; omega
      have e2 : (gs ++ [g]).getD i 0 = g := by simp [List.getD_eq_getElem?_getD, ← hgl]
      have e3 : rowL (L ++ [r]) i = r := by unfold rowL; simp [List.getD_eq_getElem?_getD, ← hL]
      rw [e2, e3]
      exact ⟨hg, ht.kept g1 (hown.ne ht).symm⟩
/-- append of a new row of two, in a region that draws. -/
theorem step_appRowM (wr : World) (x y : Int) {ops : Array Oper} {o : Oper} {a : Act} {K : Act → World → Prop} {Q : Exit → Act → World → Prop} {E : Prop} {W : World} (hgd : o.guard = none) (s t : Operand)
    (ho : o.op = .call { callee := .builtin .append, args := #[s, t], argTypes := #[23, 23] })
    {B n c : Nat} {A : Option Addr} {gs : List Nat} {L : List (List Int)} (hs : a.eval s = .slice A n c) (hx : a.eval t = .slice (some ⟨wr.heap.size + 1, 0, none⟩) 1 1) (hown : OwnM wr B A n c gs L)
    (hW : W.heap = ((wr.alloc (.cells (ints [x, y]).toArray 3)).alloc (.cells #[rowW wr.heap.size [x, y]] 31)).heap) (hWo : W.os = wr.os ∧ W.tape = wr.tape ∧ W.output = wr.output) (hn : n ≤ 1000000) (hB : B ≤ wr.heap.size)
    (h : ∀ A' c' W', OwnM W' B A' (n + 1) c' (gs ++ [wr.heap.size]) (L ++ [[x, y]]) → Below B wr W' → K (a.put o.dst (.slice A' (n + 1) c')) W') :
    if Region.wanted o (yielded ops a.tmps) = true then Oper.wp Try.prog o a W K Q else E := by
  have hw : Region.wanted o (yielded ops a.tmps) = true := by simp [Region.wanted, hgd]
  rw [if_pos hw]
  obtain ⟨W2, hW2⟩ : ∃ W2, (wr.alloc (.cells (ints [x, y]).toArray 3)).alloc (.cells #[rowW wr.heap.size [x, y]] 31) = W2 := ⟨_, rfl⟩
  have o2 : OwnM W2 B A n c gs L := by rw [← hW2]; exact (hown.al _).al _
  have c2 : W2.cell? ⟨wr.heap.size + 1, 0, none⟩ = some (rowW wr.heap.size [x, y]) := by rw [← hW2]; exact box_two _ _ _ _
  have r2 : RowBlk W2 wr.heap.size [x, y] := by rw [← hW2]; exact row_new wr [x, y] _ (by simp)
  have s2 : B ≤ W2.heap.size := by rw [← hW2]; simp; omega
  rw [hW2] at hW
  have o3 : OwnM W B A n c gs L := ⟨⟨o2.row.1, by rcases o2.row.2 with e | ⟨g, cap, cur, e, hb, hh, r⟩; exact .inl e; exact .inr ⟨g, cap, cur, e, hb, by rw [hW]; exact hh, r⟩⟩, o2.len, o2.nodup, fun i hi => ⟨(o2.rows i hi).1, by have := (o2.rows i hi).2; exact ⟨by rw [hW]; exact this.1, this.2⟩⟩⟩
  have c3 : W.cell? ⟨wr.heap.size + 1, 0, none⟩ = some (rowW wr.heap.size [x, y]) := (World.cell?_of_block (w := W2) (a := ⟨wr.heap.size + 1, 0, none⟩) (by rw [hW])).trans c2
  obtain ⟨A', c', W', hrun, h2, h3⟩ := run_appRowM (W := W) o3 (c2 := 1) c3 ⟨by rw [hW]; exact r2.1, r2.2⟩ hB hown.fresh hn (by rw [hW]; exact s2) o.type
  unfold Oper.wp execOp
  simp only [ho, resolve, invoke, builtin, Sem.run_bind, Sem.run_pure, Result.andThen_ok, List.map_toArray, List.map_cons, List.map_nil, hs, hx, hrun]
  have hb2 : Below B wr W2 := by rw [← hW2]; exact ((Below.refl B wr).alloc hB _).alloc (by simp; omega) _
  exact h A' c' W' h2 ⟨h3.os.trans hWo.1, h3.tape.trans hWo.2.1, h3.output.trans hWo.2.2, Nat.le_trans (by rw [hW]; exact hb2.size) h3.size, fun k hk => (h3.block k (by rw [hW]; omega) (fun e => by have := (hown.blk k e.symm).1; omega)).trans (by rw [hW]; exact hb2.block k hk)⟩

set_option maxRecDepth 100000 in
set_option maxHeartbeats 4000000 in
theorem specPathTurn_any (A : Option Addr) (n c : Nat) (L : List (List Int)) (w : World) (h : RdM w A n L) (hs : SmallM L) :
    Calls Try.prog 45 #[.slice A n c] w fun e w' => (∃ (A' : Option Addr) (n' c' : Nat), e = .returned (.tuple #[.slice A' n' c', .bool (pathB L)]) ∧ RdM w' A' n' (ifR L fun l => rowsOf (l.map fun p => (-p.2, p.1)))) ∧ Below w.heap.size w w' := by
  have hI := fun W (hW : Below w.heap.size w W) => specPathIn_any A n c L W (h.same hW) hs
  have H0 := Lib.hid (OwnM.empty w (B := w.heap.size) (Nat.le_refl _))
  have B0 := Lib.hid (below_alloc (Below.refl w.heap.size w) (.cells #[] 31))
  cases hp : pathB L with
  | false =>
    rw [ifR_no _ hp]
    rw [hp] at hI
    clear h hs hp
    go_enter Try.func45, Try.ntmps45
    go_wp2_with fail
    refine (hI _ B0.out).mono ?_
    rintro e w1 ⟨rfl, b1⟩
    go_wp2_with fail
    refine bodyPost_ret (results_tmp2 rfl _ _ _) rfl ?_
    exact ⟨⟨_, 0, 0, rfl, RdM.nil_ _ _⟩, below_then B0.out b1⟩
  | true =>
    rw [ifR_yes _ hp]
    obtain ⟨hP, hst⟩ := pathB_true hp
    have hl := h.1
    have HL := Lib.hid hl
    have hn8 : n ≤ 8 := by have := hP.hi; simp at this; omega
    have HS := Lib.hid (show ∀ i, i < n → stepRow (rowL L i) = true from fun i hi => hst i (by omega))
    have HE := Lib.hid (show (ptsL L).map (fun p => (-p.2, p.1)) = (List.range n).map (fun i => (-(rowL L i).getD 1 0, (rowL L i).getD 0 0)) by
      apply List.ext_getElem (by simp [hl])
      intro i h1 h2
      simp at h1 h2
      simp [rowL, List.getD_eq_getElem?_getD, h1])
    rw [HE.out]
    rw [hp] at hI
    clear hP hst hl hp
    go_enter Try.func45, Try.ntmps45
    go_wp2_with fail
    refine (hI _ B0.out).mono ?_
    rintro e w1 ⟨rfl, b1⟩
    have B1 := Lib.hid (below_then B0.out b1)
    have H1 := Lib.hid (H0.out.same b1)
    clear hI b1
    go_wp2_with fail
    go_loopw [4, 5] (fun out i wr => ∃ (k : Nat) (A' : Option Addr) (c' : Nat) (gs : List Nat), k ≤ n ∧ i = .int .i64 k ∧ out = .slice A' k c' ∧ OwnM wr w.heap.size A' k c' gs (rowsOf ((List.range k).map fun i => (-(rowL L i).getD 1 0, (rowL L i).getD 0 0))) ∧ Below w.heap.size w wr) (fun _ i _ => n - (intOf i).toNat)
    case atStart => exact ⟨0, _, 0, [], Nat.zero_le _, rfl, rfl, H1.out, B1.out⟩
    case round =>
      obtain ⟨k, A', c', gs, hk, rfl, rfl, ho, hb⟩ := hrel
      by_cases hlt : k < n
      · obtain ⟨b, off, rfl, hbl, hc⟩ := h.2 (by omega)
        obtain ⟨A1, c1, x1, r1⟩ := hc k hlt
        have hr2 := (stepRow_pt (HS.out k hlt))
        rw [hr2.2] at x1 r1
        obtain ⟨b1, off1, rfl, hbl1, hc1⟩ := r1.2 (by omega)
        have HO := Lib.hid (show rowsOf ((List.range (k + 1)).map fun i => (-(rowL L i).getD 1 0, (rowL L i).getD 0 0)) = rowsOf ((List.range k).map fun i => (-(rowL L i).getD 1 0, (rowL L i).getD 0 0)) ++ [[-(rowL L k).getD 1 0, (rowL L k).getD 0 0]] from rowsOf_succ (f := fun i => (-(rowL L i).getD 1 0, (rowL L i).getD 0 0)) k)
        have p1 : -9 ≤ (rowL L k).getD 0 0 ∧ (rowL L k).getD 0 0 ≤ 9 := hr2.1.1
        have p2 : -9 ≤ (rowL L k).getD 1 0 ∧ (rowL L k).getD 1 0 ≤ 9 := hr2.1.2.1
        have k0 := (hb.cell (p := ⟨b, off + k, none⟩) hbl).trans x1
        have k1 := (hb.cell (p := ⟨b1, off1 + 0, none⟩) hbl1).trans (hc1 0 (by omega))
        have k2 := (hb.cell (p := ⟨b1, off1 + 1, none⟩) hbl1).trans (hc1 1 (by omega))
        rw [Nat.add_zero] at k1
        generalize (rowL L k).getD 0 0 = px at *
        generalize (rowL L k).getD 1 0 = py at *
        have v1 : IntKind.i64.wrap (0 - py) = -py := wrap_is (by omega) (by omega) (by omega)
        have v2 : IntKind.i64.wrap (-py) = -py := wrap_is rfl (by omega) (by omega)
        have HB := Lib.hid hb
        have HOW := Lib.hid ho
        clear hc h x1 r1 hc1 hr2 p1 p2 hb ho
        have g1 : (k : Int) < (n : Int) := by omega
        have g2 : (0 : Int) ≤ (k : Int) := by omega
        have g3 : ((k : Int)).toNat = k := by omega
        go_wp2_with fail
        go_region_law (refine step_appRowM wr (-py) px rfl (.tmp 17) (.tmp 32) rfl rfl rfl HOW.out rfl ⟨rfl, rfl, rfl⟩ (by omega) HB.out.size ?_; intro A5 c5 W5 o5 b5; have HO5 := Lib.hid o5; have HB5 := Lib.hid (HB.out.trans b5); clear o5 b5)
        all_goals
          go_wp2_with fail
          go_roundw
          case rel =>
            first
              | exact ⟨k + 1, A5, c5, _, by omega, by go_num, rfl, by rw [HO.out]; exact HO5.out, HB5.out⟩
              | ((repeat apply Exists.intro); exact ⟨⟨k + 1, A5, c5, _, by omega, by go_num, rfl, by rw [HO.out]; exact HO5.out, HB5.out⟩, rfl⟩)
          case measure => simp [intOf]; omega
      · obtain rfl : k = n := by omega
        clear h
        go_wp2_with fail
        refine bodyPost_ret (results_tmp2 rfl _ _ _) rfl ?_
        exact ⟨⟨A', k, c', rfl, ho.rd⟩, hb⟩
end Go.Proofs.Ythpgenkdiokpeaa
