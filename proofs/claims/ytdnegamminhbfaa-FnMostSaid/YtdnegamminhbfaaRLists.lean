/- What is told of each corner of a ring, as rows. -/
import Derived.Test.YtdnegamminhbfaaArea
import Derived.Test.YtdnegamminhbfaaFloat
import Derived.Test.YtdnegamminhbfaaPathS
import Derived.Test.YtdnegamminhbfaaRowH
namespace Go.Proofs.Ytdnegamminhbfaa
open Go.RowKit Go.Sort Go.Lib Go.Shelf
attribute [local go_sem] Oper.semAt_some

theorem listC_step {F : Fence} {n : Nat} {P : Program} {ops : Array Oper} {C : World → Prop} {Q : Exit → Act → World → Prop} {m k : Nat} {o : Oper} {rest : List Oper} {a : Act} {w : World}
    (h : ∀ K : Act → World → Prop, (∀ a' w', (k < m → C w') → wpListC F n P ops C m Q rest (k + 1) a' w' → K a' w') → if Region.wanted o (yielded ops a.tmps) then o.wpIn F n P a w K Q else (∀ f, o.about P w a.eval = some f → F.fn f) ∧ K (a.put o.dst undef) w) :
    wpListC F n P ops C m Q (o :: rest) k a w := by
  have := h (fun a' w' => (k < m → C w') ∧ wpListC F n P ops C m Q rest (k + 1) a' w') (fun _ _ h1 h2 => ⟨h1, h2⟩)
  unfold wpListC
  exact this
theorem box_far {W : World} {bx : Nat} {t : TypeId} {v : Value} {B n c : Nat} {A : Option Addr} {gs : List Nat} {L : List (List Int)} (hb : Boxed W bx t v) (h : OwnM W B A n c gs L) (h1 : t ≠ 30) (h2 : t ≠ 3) :
    (Value.slice A n c).ownBlock ≠ some bx ∧ ∀ i, i < L.length → gs.getD i 0 ≠ bx := by
  constructor
  · rcases h.row.2 with ⟨e, _⟩ | ⟨g', cap, cur, e, _, hh, _⟩
    · rw [e]; simp [Value.ownBlock]
    · rw [e]
      intro hg
      simp only [Value.ownBlock, Option.some.injEq] at hg
      subst hg
      have hb' := hb
      unfold Boxed at hb'
      rw [hh] at hb'
      simp only [Option.some.injEq, Obj.cells.injEq] at hb'
      exact h1 hb'.2.1.symm
  · intro i hi e
    have h3 := (h.rows i hi).2.1
    rw [e] at h3
    have hb' := hb
    unfold Boxed at hb'
    rw [h3] at hb'
    simp only [Option.some.injEq, Obj.cells.injEq] at hb'
    exact h2 hb'.2.1.symm
theorem OwnM.round {W W' : World} {B n c : Nat} {A : Option Addr} {gs : List Nat} {L : List (List Int)} {row : Option Nat} (h : OwnM W B A n c gs L) (hg : W.grownBy W' row) (hr : ∀ r, row = some r → ∃ o : Obj, W.heap[r]? = some o ∧ o.isCells = false) : OwnM W' B A n c gs L := by
  refine h.off hg (fun k e he => ?_) (fun k e i hi he => ?_)
  · obtain ⟨o, ho, hc⟩ := hr k e
    rcases h.row.2 with ⟨e', _⟩ | ⟨g', cap, cur, e', _, hh, _⟩
    · rw [e'] at he; simp [Value.ownBlock] at he
    · rw [e'] at he
      simp only [Value.ownBlock, Option.some.injEq] at he
      subst he
      rw [hh] at ho
      cases ho
      cases hc
  · obtain ⟨o, ho, hc⟩ := hr k e
    have h3 := (h.rows i hi).2.1
    rw [he, ho] at h3
    cases h3
    cases hc

/-- append of one row, inside a fence. -/
theorem wpListIn_appRowM {F : Fence} {r : Nat} {ops : Array Oper} {rest : List Oper} {o : Oper} {a : Act} {Q : Exit → Act → World → Prop} {W : World} (hgd : o.guard = none) (s x : Operand)
    (ho : o.op = .call { callee := .builtin .append, args := #[s, x], argTypes := #[23, 23] })
    {B n c : Nat} {A : Option Addr} {gs : List Nat} {L : List (List Int)} (hs : a.eval s = .slice A n c) (hown : OwnM W B A n c gs L) {b g c2 : Nat} {q : List Int} (hx : a.eval x = .slice (some ⟨b, 0, none⟩) 1 c2) (hc : W.cell? ⟨b, 0, none⟩ = some (rowW g q)) (ht : RowBlk W g q) (hg : B ≤ g) (hni : g ∉ gs)
    (hn : n ≤ 1000000) (hB : B ≤ W.heap.size)
    (h : ∀ A' c' W', OwnM W' B A' (n + 1) c' (gs ++ [g]) (L ++ [q]) → W.grownBy W' (Value.slice A n c).ownBlock → wpListIn F r Try.prog ops Q rest (a.put o.dst (.slice A' (n + 1) c')) W') : wpListIn F r Try.prog ops Q (o :: rest) a W := by
  obtain ⟨i0, hi, hz0, hz1, hz2⟩ := info_parts rowsInfo
  refine wpListIn_append_own W hgd s x 23 ho B 30 i0 (.slice none 0 0) 1 24 Try.underlying23 hi hz0 hz1 hz2 rfl (by decide) _ n ((gs.zip L).map fun p => rowW p.1 p.2) hs hown.row ⟨b, 0, none⟩ 1 c2 [rowW g q] hx rfl (fun j u hu => ?_) (fun u hu => ?_) (by unfold maxLen; omega) (by omega) hB fun v' w' r1 g1 _ => ?_
  · match j, hu with
    | 0, hu =>
      obtain rfl : rowW g q = u := by simpa using hu
      simpa [Addr.add] using hc
  · obtain rfl : u = rowW g q := by simpa using hu
    rfl
  · have hL := hown.n
    have hgl : gs.length = n := by rw [hown.len]; exact hL
    have e1 : (gs.zip L).map (fun p => rowW p.1 p.2) ++ [rowW g q] = ((gs ++ [g]).zip (L ++ [q])).map fun p => rowW p.1 p.2 := by
      rw [List.zip_append hown.len, List.map_append]; rfl
    rw [e1] at r1
    obtain ⟨A', c', rfl⟩ : ∃ A' c', v' = .slice A' (n + 1) c' := by
      rcases r1.2 with ⟨_, e⟩ | ⟨g', cap, cur, e, _⟩
      · omega
      · exact ⟨_, _, e⟩
    refine h A' c' w' ⟨r1, by simp [hown.len], ?_, fun i hi => ?_⟩ g1
    · rw [List.nodup_append]
      exact ⟨hown.nodup, by simp, fun a ha b hb e => by
        obtain rfl : b = g := by simpa using hb
        subst e; exact hni ha⟩
    · by_cases hlt : i < n
      · have e2 : (gs ++ [g]).getD i 0 = gs.getD i 0 := by simp [List.getD_eq_getElem?_getD, List.getElem?_append_left (show i < gs.length by omega)]
        have e3 : rowL (L ++ [q]) i = rowL L i := by unfold rowL; simp [List.getD_eq_getElem?_getD, List.getElem?_append_left (show i < L.length by omega)]
        rw [e2, e3]
        obtain ⟨q1, q2⟩ := hown.rows i (by omega)
        exact ⟨q1, q2.kept g1 (hown.ne q2).symm⟩
      · obtain rfl : i = n := by simp at hi; omega
        have e2 : (gs ++ [g]).getD i 0 = g := by simp [List.getD_eq_getElem?_getD, ← hgl]
        have e3 : rowL (L ++ [q]) i = q := by unfold rowL; simp [List.getD_eq_getElem?_getD, ← hL]
        rw [e2, e3]
        exact ⟨hg, ht.kept g1 (hown.ne ht).symm⟩

/-- The list so far. -/
def LstI (w : World) (T : Nat → Pt) {n : Nat} (pre : List (Fin n)) (W : World) : Prop :=
  ∃ A c gs, Boxed W (w.heap.size + 1 + 1) 23 (.slice A pre.length c) ∧ OwnM W w.heap.size A pre.length c gs (rowsOf (pre.map fun i => T i.1))
theorem LstI.from (w : World) (T : Nat → Pt) (n B : Nat) : OwnFrom B (LstI w T (n := n)) := fun pre W W' row hs hg hr => by
  obtain ⟨A, c, gs, h1, h2⟩ := hs
  refine ⟨A, c, gs, ?_, h2.round hg (fun r e => (hr r e).2)⟩
  refine h1.kept hg fun e => ?_
  obtain ⟨_, o, ho, hc⟩ := hr _ e.symm
  unfold Boxed at h1
  rw [h1] at ho
  cases ho
  cases hc

set_option maxRecDepth 100000 in
set_option maxHeartbeats 4000000 in
theorem lists_any (f : FuncId) (T : Nat → Pt) (gs : List Nat) (ps : List Pt) (w : World) (hR : Ring w gs ps) (hn8 : ps.length ≤ 1000)
    (hT : ∀ W i, i < ps.length → Ring W gs ps → Calls Try.prog f #[ptrV (gs.getD i 0)] W fun e w'' => e = .returned (vecX (T i).1 (T i).2) ∧ Below W.heap.size W w'') (he : ∀ args w, (callFunc f args).run Try.prog w = .ok (.enter f args) w) :
    Calls Try.prog 87 #[ptrV (gs.getD 0 0), .func (.func f) #[] #[]] w fun e w' => (∃ A c, e = .returned (.slice A ps.length c) ∧ ∃ hs, OwnM w' w.heap.size A ps.length c hs (rowsOf ((List.range ps.length).map T))) ∧ Below w.heap.size w w' := by
  have HR := Lib.hid hR
  have HN := Lib.hid hn8
  have HT := Lib.hid hT
  obtain ⟨g0, eg⟩ : ∃ g0, g0 = gs.getD 0 0 := ⟨_, rfl⟩
  rw [← eg]
  have EG := Lib.hid eg
  have hps := hR.pos
  clear hR hn8 eg hT
  refine (callsIn_wide (n := 5)).1 ?_
  refine callsIn_of_wp_marks Try.func87 rfl trivial ?_ rfl
  simp only [Try.ntmps87, List.size_toArray, List.length_cons, List.length_nil, Nat.reduceAdd, Nat.reduceSub, Array.replicate_succ, Array.replicate_zero, List.push_toArray, List.append_toArray, List.nil_append, List.cons_append]
  gi_wp2_with fail
  refine ⟨trivial, (around_in Fence.wide _ trivial rfl _ _).mono ?_⟩
  rintro e w3 ⟨rfl, rfl⟩
  gi_wp2_with fail
  obtain ⟨W1, hW1⟩ : ∃ W1, w.alloc (.cells #[Value.func (Fn.func f) #[] #[]] 78) = W1 := ⟨_, rfl⟩
  have hs1 : W1.heap.size = w.heap.size + 1 := by rw [← hW1]; simp
  have bF1 : Boxed W1 w.heap.size 78 (Value.func (Fn.func f) #[] #[]) := by rw [← hW1]; exact Boxed.new w _ _
  have hB1 : Below w.heap.size w W1 := by rw [← hW1]; exact below_alloc (Below.refl _ _) _
  have o2 := OwnM.empty W1 (B := w.heap.size) (by omega)
  rw [hW1]
  have hs2 : (W1.alloc (.cells #[] 30)).heap.size = w.heap.size + 1 + 1 := by simp; omega
  have o3 := (o2.al (.cells #[.slice (some ⟨W1.heap.size, 0, none⟩) 0 0] 23)).al (.cells #[ptrV g0] 66)
  have bL := (Boxed.new (W1.alloc (.cells #[] 30)) 23 (.slice (some ⟨W1.heap.size, 0, none⟩) 0 0)).alloc (.cells #[ptrV g0] 66)
  have bS := Boxed.new ((W1.alloc (.cells #[] 30)).alloc (.cells #[.slice (some ⟨W1.heap.size, 0, none⟩) 0 0] 23)) 66 (ptrV g0)
  rw [World.size_alloc] at bS
  rw [hs2] at bS bL
  have bF := (((bF1.alloc (.cells #[] 30)).alloc (.cells #[.slice (some ⟨W1.heap.size, 0, none⟩) 0 0] 23)).alloc (.cells #[ptrV g0] 66))
  have hB0 : Below w.heap.size w (((W1.alloc (.cells #[] 30)).alloc (.cells #[.slice (some ⟨W1.heap.size, 0, none⟩) 0 0] 23)).alloc (.cells #[ptrV g0] 66)) := below_alloc (below_alloc (below_alloc hB1 _) _) _
  rw [hs1] at o3 bL bS bF hB0
  have hsz : (((W1.alloc (.cells #[] 30)).alloc (.cells #[.slice (some ⟨w.heap.size + 1, 0, none⟩) 0 0] 23)).alloc (.cells #[ptrV g0] 66)).heap.size = w.heap.size + 4 := by simp; omega
  obtain ⟨W0, hW0⟩ : ∃ W0, ((W1.alloc (.cells #[] 30)).alloc (.cells #[.slice (some ⟨w.heap.size + 1, 0, none⟩) 0 0] 23)).alloc (.cells #[ptrV g0] 66) = W0 := ⟨_, rfl⟩
  rw [hW0] at o3 bL bS bF hB0 hsz ⊢
  clear hW0 hW1 hs1 bF1 hB1 o2 hs2
  refine wpIn_rangeFunc_ownH (F := Fence.wide) rfl (by omega) (gf := 145) (lb := #[ptrV (w.heap.size + 1 + 1 + 1)]) rfl trivial (enters_of Try.func145 (by kernel_rfl) rfl)
    (around_stops _ (w.heap.size + 1 + 1 + 1) w.heap.size gs ps (by have := HN.out; omega) W0 (HR.out.same hB0) (fun i hi => HR.out.lt hi) hB0.size (by omega) (by rw [← EG.out]; exact bS.cell)) KpC.trans (KpC.put (by omega) (by omega)) (Below.refl _ _) (fun _ => rfl)
    (fun pre W => (((LstI w T pre W ∧ Boxed W w.heap.size 78 (Value.func (Fn.func f) #[] #[])) ∧ Boxed W (w.heap.size + 1 + 1 + 1) 66 (ptrV g0)) ∧ w.heap.size + 4 ≤ W.heap.size) ∧ Below w.heap.size w W)
    (fun _ _ _ => False)
    (OwnFrom.and (OwnFrom.and (OwnFrom.and (OwnFrom.and (LstI.from w T _ _) (Own.from (boxed_own _ _ (fun _ => Value.func (Fn.func f) #[] #[])) _)) (Own.from (boxed_own _ _ (fun _ => ptrV g0)) _)) (bx_size _ _)) (ownFrom_below (Nat.le_refl _) (by omega)))
    (fun _ _ _ _ _ hs _ _ => hs)
    ⟨⟨⟨⟨⟨_, _, _, bL, o3⟩, bF⟩, bS⟩, by omega⟩, hB0⟩
    (fun x a' _ => a' = { tmps := #[ptrV g0, .func (.func f) #[] #[], undef, ptrV w.heap.size, .slice none 0 0, ptrV (w.heap.size + 1 + 1), ptrV (gs.getD x.1 0), .slice (some ⟨w.heap.size + 1, 0, none⟩) 0 0, ptrV g0, .func (.func 145) #[] #[ptrV (w.heap.size + 1 + 1 + 1)], ptrV (gs.getD x.1 0), undef, undef, undef, undef, undef, undef, undef, undef], defers := [] })
    (fun _ _ _ _ _ _ hs _ _ => hs)
    ?assign ?body ?done ?stop
  case assign =>
    rintro l pre x W K ⟨⟨⟨⟨hL1, bF1⟩, bC1⟩, hz1⟩, hB1⟩ hK
    simp only [encC]
    gi_wp2
    exact hK _ _ ((KeepsOthers.refl _).from _) (KpC.refl _ _ _) ⟨⟨⟨⟨hL1, bF1⟩, bC1⟩, hz1⟩, hB1⟩ rfl
  case body =>
    rintro l pre x a' W hl ⟨r, hr⟩ ⟨⟨⟨⟨⟨A1, c1, gs1, bL1, ho1⟩, bF1⟩, bC1⟩, hz1⟩, hB1⟩ rfl hlt
    have hs2 := hB1.size
    have hmx : Try.prog.follows .mixedOrders = true := by kernel_rfl
    have hf1 : Fence.wide.fn f := trivial
    have hf2 : Fence.wide.fn 130 := trivial
    have yL := cell_regrown bL1.cell
    have yF := cell_regrown bF1.cell
    have hT1 := fun W' (hW' : Below W.heap.size W W') => HT.out W' x.1 x.2 (HR.out.same (hB1.trans (hW'.mono hB1.size)))
    have HL1 := Lib.hid bL1
    have HF1 := Lib.hid bF1
    have HC1 := Lib.hid bC1
    have HO1 := Lib.hid ho1
    have HB1 := Lib.hid hB1
    have HT1 := Lib.hid hT1
    obtain ⟨tx, etx⟩ : ∃ tx, tx = (T x.1).1 := ⟨_, rfl⟩
    obtain ⟨ty, ety⟩ : ∃ ty, ty = (T x.1).2 := ⟨_, rfl⟩
    rw [← etx, ← ety] at HT1
    have hsn : rowsOf ((pre ++ [x]).map fun i => T i.1) = rowsOf (pre.map fun i => T i.1) ++ [[tx, ty]] := by rw [etx, ety]; simp [rowsOf]
    have HSN := Lib.hid hsn
    clear bL1 ho1 hB1 hT1 etx ety hsn bF1 bC1
    generalize gs.getD x.1 0 = g1 at *
    gi_wp2_with fail
    refine region_float 3 6 (by kernel_rfl) (by kernel_rfl) (fun _ _ _ _ _ h => h) ?_
    simp only [List.take_succ_cons, List.take_zero, List.drop_succ_cons, List.drop_zero]
    refine ⟨.slice A1 pre.length c1, ⟨rfl, fun w' => rfl, ?_⟩, .func (.func f) #[] #[], ⟨rfl, fun w' => rfl, ?_⟩, ptrV g1, ⟨rfl, fun w' => rfl, ?_⟩, ?_⟩
    · rintro _ ⟨⟨d, os⟩, rfl⟩
      go_simp
    · rintro _ ⟨⟨d, os⟩, rfl⟩
      go_simp
    · rintro _ ⟨⟨d, os⟩, rfl⟩
      go_simp
    refine listC_step (fun K hK => ?_)
    go_simp
    refine (CallsIn.inRound l (callsIn_wide.2 (HT1.out W.drew ((Below.refl _ _).drew)))).mono ?_
    rintro e w4 ⟨rfl, b4⟩
    have d4 : Below W.heap.size W w4 := ((Below.refl _ _).drew).trans b4
    refine hK _ _ (fun _ => regrown_of_below d4) ?_
    clear hK K b4
    refine listC_step (fun K hK => ?_)
    go_simp
    refine (CallsIn.inRound l (callsIn_wide.2 (list_any tx ty w4))).mono ?_
    rintro e w5 ⟨rfl, hrow, b5⟩
    have d5 : Below W.heap.size W w5 := d4.trans (b5.mono d4.size)
    refine hK _ _ (fun _ => regrown_of_below d5) ?_
    clear hK K
    refine listC_step (fun K hK => ?_)
    go_simp
    have d6 : Below W.heap.size W (w5.alloc (.cells #[.slice (some ⟨w4.heap.size + 1, 0, none⟩) 2 2] 30)) := d5.alloc d5.size _
    refine hK _ _ (fun _ => regrown_of_below d6) ?_
    clear hK K
    refine listC_of _ _ _ _ (by omega) ?_
    have o6 := HO1.out.same d6
    have bL6 : Boxed (w5.alloc (.cells #[.slice (some ⟨w4.heap.size + 1, 0, none⟩) 2 2] 30)) (w.heap.size + 1 + 1) 23 (.slice A1 pre.length c1) := HL1.out.kept (grown_of_below d6) (by simp)
    have bF6 := HF1.out.kept (grown_of_below d6) (by simp)
    have bC6 := HC1.out.kept (grown_of_below d6) (by simp)
    have hfar2 := box_far bC6 o6 (by decide) (by decide)
    have hfar3 := box_far bF6 o6 (by decide) (by decide)
    have hfar := box_far bL6 o6 (by decide) (by decide)
    have hrow6 : RowBlk (w5.alloc (.cells #[.slice (some ⟨w4.heap.size + 1, 0, none⟩) 2 2] 30)) (w4.heap.size + 1) [tx, ty] := ⟨al_old hrow.1, hrow.2⟩
    refine wpListIn_appRowM rfl _ _ rfl rfl o6 (q := [tx, ty]) (g := w4.heap.size + 1) rfl (box_one _ _ _) hrow6 (by have := d4.size; omega) (fun hm => by have h1 := (HO1.out.mem hm).2; have := d4.size; omega) (by omega) (Nat.le_trans hs2 d6.size) ?_
    intro A5 c5 W5 o5 g5
    have hb5 : Below w.heap.size w W5 := (HB1.out.trans (d6.mono HB1.out.size)).grown g5 (Nat.le_trans hs2 d6.size) (fun k e => (o6.blk k e).1)
    have bL5 : Boxed W5 (w.heap.size + 1 + 1) 23 (.slice A1 pre.length c1) := bL6.kept g5 (fun e => hfar.1 e.symm)
    have hk5 : KeepsOthers W W5 := (keeps_b d6).trans (KeepsOthers.of_grownBy g5 (fun j o e ho => by
      rcases o6.row.2 with ⟨e', _⟩ | ⟨g', cap, cur, e', _, hh, _⟩
      · rw [e'] at e; simp [Value.ownBlock] at e
      · rw [e'] at e
        simp only [Value.ownBlock, Option.some.injEq] at e
        subst e
        rw [hh] at ho
        cases ho
        rfl))
    have hsz5 : W.heap.size ≤ W5.heap.size := Nat.le_trans d6.size g5.size
    have hkp5 : KpC w.heap.size (w.heap.size + 1 + 1 + 1) W W5 := by
      have hcb : ∀ k, (Value.slice A1 pre.length c1).ownBlock = some k → w.heap.size ≤ k ∧ k ≠ w.heap.size + 1 + 1 + 1 := fun k e => ⟨(o6.blk k e).1, fun e2 => hfar2.1 (by rw [e, e2])⟩
      exact (KpC.below d6 (by omega) (by omega)).trans (KpC.of g5 (by have := d6.size; omega) (by have := d6.size; omega) hcb)
    have HF5 := Lib.hid (bF6.kept g5 (fun e => hfar3.1 e.symm))
    have HC5 := Lib.hid (bC6.kept g5 (fun e => hfar2.1 e.symm))
    have cL5 := bL5.cell
    have fL5 := bL5.frozen
    have HO5 := Lib.hid o5
    have HB5 := Lib.hid hb5
    have HK5 := Lib.hid (And.intro hk5 hkp5)
    have HL5 := Lib.hid bL5
    clear o6 bL6 bF6 bC6 hfar hfar2 hfar3 hrow6 o5 g5 hb5 hk5 hkp5 d4 d5 d6 hrow b5 bL5 yL yF
    gi_wp2
    have hszB := HB5.out.size
    have hfar5 := box_far HL5.out HO5.out (by decide) (by decide)
    have hgr := grownBy_setCell' W5 (w.heap.size + 1 + 1) (.slice A5 (pre.length + 1) c5)
    refine ⟨(HK5.out.1.trans (KeepsOthers.setCell _ _ _)).from _, HK5.out.2.trans (KpC.of hgr (by omega) (by omega) (fun k e => by cases e; omega)), ⟨⟨⟨⟨A5, c5, gs1 ++ [w4.heap.size + 1], ?_, ?_⟩, HF5.out.kept hgr (by intro e; injection e; omega)⟩, HC5.out.kept hgr (by intro e; injection e; omega)⟩, by simp [World.setCell]; omega⟩, HB5.out.setCell (p := ⟨w.heap.size + 1 + 1, 0, none⟩) (by show w.heap.size ≤ w.heap.size + 1 + 1; omega) _⟩
    · rw [List.length_append, List.length_singleton]
      exact HL5.out.set _
    · rw [List.length_append, List.length_singleton, HSN.out]
      exact HO5.out.off hgr (fun k e => by cases e; exact hfar5.1) (fun k e i hi => by cases e; exact hfar5.2 i hi)
  case done =>
    rintro D ys W hD rfl ⟨⟨⟨⟨⟨A1, c1, gs1, bL1, ho1⟩, bF1⟩, bC1⟩, hz1⟩, hB1⟩ hK
    have cM := bL1.cell
    have e1 : (firsts hps ps.length).length = ps.length := firsts_len hps _
    have e2 : (firsts hps ps.length).map (fun i => T i.1) = (List.range ps.length).map T := by
      unfold firsts
      rw [List.map_map]
      refine List.map_congr_left fun i hi => ?_
      show T (fz hps i).1 = T i
      rw [fz_val hps (List.mem_range.1 hi)]
    rw [e1] at cM
    have HO := Lib.hid ho1
    gi_wp2
    refine ⟨by simp, .inl ⟨_, _, rfl, run_takeDeferred hK, ?_⟩⟩
    refine ⟨_, results_tmp rfl _ _ _, ?_⟩
    have ho2 := HO.out
    rw [e1, e2] at ho2
    refine ⟨⟨A1, c1, rfl, gs1, ho2.round (grownBy_putObj' W D _) (fun r e => by cases e; exact ⟨_, hK, rfl⟩)⟩, hB1.trans (belowK_b (w := w) (Nat.le_refl _) W D _ _ (by omega) hK rfl rfl)⟩
  case stop =>
    rintro D c' pre W _ _ h _
    exact h.elim
end Go.Proofs.Ytdnegamminhbfaa
