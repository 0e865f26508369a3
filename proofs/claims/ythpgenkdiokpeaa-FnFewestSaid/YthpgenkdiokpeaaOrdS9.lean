/- Joined: OrdS8, OrdS9: the model's OrderFewest. -/
import Derived.Test.YthpgenkdiokpeaaOrdS1
import Derived.Test.YthpgenkdiokpeaaFewP
import Derived.Test.YthpgenkdiokpeaaSls
import Derived.Test.YthpgenkdiokpeaaPathS9
import Derived.Test.YthpgenkdiokpeaaOrdI2
import Derived.Deep.DeepCutAuto
namespace Go.Proofs.Ythpgenkdiokpeaa
open Go.RowKit Go.Sort Go.Lib

set_option maxRecDepth 100000 in
set_option maxHeartbeats 4000000 in
theorem l7Equal_any (A A2 : Option Addr) (n c c2 : Nat) (l m : List Pt) (w : World) (h : RdM w A n (rowsOf l)) (h2 : RdM w A2 n (rowsOf m)) (hn : n ≤ 1000) :
    Calls Try.prog 138 #[.slice A n c, .slice A2 n c2] w fun e w' => e = .returned (.bool (decide (l = m))) ∧ Below w.heap.size w w' := by
  have hl : l.length = n := by rw [← rowsOf_len]; exact h.1
  have hm : m.length = n := by rw [← rowsOf_len]; exact h2.1
  have H1 := Lib.hid h
  have H2 := Lib.hid h2
  have HL := Lib.hid (And.intro hl hm)
  have ee : ((n : Int) == (n : Int)) = true := by simp
  clear h h2 hl hm
  go_enter Try.func138, Try.ntmps138
  go_wp2_with fail
  go_loopw [5] (fun i wr => ∃ k : Nat, k ≤ n ∧ i = .int .i64 k ∧ (∀ j, j < k → atP l j = atP m j) ∧ Below w.heap.size w wr) (fun i _ => n - (intOf i).toNat)
  case atStart => exact ⟨0, Nat.zero_le _, rfl, fun j hj => by omega, Below.refl _ _⟩
  case round =>
    obtain ⟨k, hk, rfl, hal, hb⟩ := hrel
    have HA := Lib.hid hal
    have HB := Lib.hid hb
    by_cases hlt : k < n
    · obtain ⟨b, off, rfl, hbl, hc⟩ := H1.out.2 (by omega)
      obtain ⟨b2, off2, rfl, hbl2, hc2⟩ := H2.out.2 (by omega)
      obtain ⟨A1, c1, x1, r1⟩ := hc k hlt
      obtain ⟨A3, c3, x3, r3⟩ := hc2 k hlt
      rw [rowsOf_at (by have := HL.out; omega)] at x1 r1
      rw [rowsOf_at (by have := HL.out; omega)] at x3 r3
      obtain ⟨b3, off3, rfl, hbl3, hc3⟩ := r1.2 (by simp)
      obtain ⟨b4, off4, rfl, hbl4, hc4⟩ := r3.2 (by simp)
      have k1 := (hb.cell (p := ⟨b, off + k, none⟩) hbl).trans x1
      have k2 := (hb.cell (p := ⟨b2, off2 + k, none⟩) hbl2).trans x3
      have k3 := (hb.cell (p := ⟨b3, off3 + 0, none⟩) hbl3).trans (hc3 0 (by simp))
      have k4 := (hb.cell (p := ⟨b3, off3 + 1, none⟩) hbl3).trans (hc3 1 (by simp))
      have k5 := (hb.cell (p := ⟨b4, off4 + 0, none⟩) hbl4).trans (hc4 0 (by simp))
      have k6 := (hb.cell (p := ⟨b4, off4 + 1, none⟩) hbl4).trans (hc4 1 (by simp))
      rw [Nat.add_zero] at k3 k5
      have e1 : (ptRow (atP l k)).length = 2 := rfl
      have e2 : (ptRow (atP m k)).length = 2 := rfl
      simp only [e1] at k1
      simp only [e2] at k2
      have q0 : (ptRow (atP l k)).getD 0 0 = (atP l k).1 := rfl
      have q1 : (ptRow (atP l k)).getD 1 0 = (atP l k).2 := rfl
      have q2 : (ptRow (atP m k)).getD 0 0 = (atP m k).1 := rfl
      have q3 : (ptRow (atP m k)).getD 1 0 = (atP m k).2 := rfl
      rw [q0] at k3
      rw [q1] at k4
      rw [q2] at k5
      rw [q3] at k6
      have HE := Lib.hid (show (atP l k).1 = (atP m k).1 → (atP l k).2 = (atP m k).2 → ∀ j, j < k + 1 → atP l j = atP m j from fun h1 h2 j hj => by
        by_cases e : j = k
        · subst e; exact Prod.ext h1 h2
        · exact HA.out j (by omega))
      have HNE := Lib.hid (show ((atP l k).1 ≠ (atP m k).1 ∨ (atP l k).2 ≠ (atP m k).2) → decide (l = m) = false from fun h => decide_eq_false fun e => by
        subst e
        rcases h with h | h <;> exact h rfl)
      generalize (atP l k).1 = px at *
      generalize (atP l k).2 = py at *
      generalize (atP m k).1 = qx at *
      generalize (atP m k).2 = qy at *
      have g1 : (k : Int) < (n : Int) := by omega
      have g2 : (0 : Int) ≤ (k : Int) := by omega
      have g3 : ((k : Int)).toNat = k := by omega
      clear x1 x3 r1 r3 hc hc2 hc3 hc4 hb hal e1 e2 q0 q1 q2 q3
      by_cases hx : px = qx
      · subst hx
        have t1 : (px != px) = false := by simp
        by_cases hy : py = qy
        · subst hy
          have t2 : (py != py) = false := by simp
          have HE2 := Lib.hid (HE.out rfl rfl)
          clear HE HNE
          go_wp2_with fail
          go_quiet (fail)
          go_wp2_with fail
          go_roundw
          case rel => exact ⟨k + 1, by omega, by go_num, HE2.out, below_drewN HB.out _⟩
          case measure => simp [intOf]; omega
        · have t2 : (py != qy) = true := by simpa using hy
          have HF := Lib.hid (HNE.out (.inr hy))
          clear HE HNE hy
          go_wp2_with fail
          go_quiet (fail)
          go_wp2_with fail
          go_ret
          exact ⟨congrArg (fun b : Bool => Ending.returned (.bool b)) HF.out.symm, below_drewN HB.out _⟩
      · have t1 : (px != qx) = true := by simpa using hx
        have HF := Lib.hid (HNE.out (.inl hx))
        clear HE HNE hx
        go_wp2_with fail
        go_quiet (fail)
        go_wp2_with fail
        go_ret
        exact ⟨congrArg (fun b : Bool => Ending.returned (.bool b)) HF.out.symm, below_drewN HB.out _⟩
    · obtain rfl : k = n := by omega
      have HF := Lib.hid (show decide (l = m) = true from decide_eq_true (ext_atP (by rw [HL.out.1, HL.out.2]) fun i hi => HA.out i (by rw [HL.out.1] at hi; exact hi)))
      clear hal hb
      go_wp2_with fail
      go_ret
      exact ⟨congrArg (fun b : Bool => Ending.returned (.bool b)) HF.out.symm, HB.out⟩
end Go.Proofs.Ythpgenkdiokpeaa

/- The model's OrderFewest. -/
namespace Go.Proofs.Ythpgenkdiokpeaa
open Go.RowKit Go.Sort Go.Lib

theorem rows3 : (Try.prog.info? 23).map (fun i => (i.zero, i.size, i.bytes)) = some (some (.slice none 0 0), 1, 24) := by kernel_rfl
theorem rows_ne : (23 : TypeId) ≠ 3 := by decide
/-- The orders met, and how far they lie. -/
structure MetS (w : World) (n : Nat) (A : Option Addr) (c : Nat) (vs : List Value) (m : List (List Pt)) (Af : Option Addr) (cf nf : Nat) (ds : List Nat) (W : World) : Prop where
  own : OwnS 23 W w.heap.size A m.length c vs
  far : Own W w.heap.size Af nf cf (ds.map fun (d : Nat) => (d : Int))
  rows : ∀ i, i < m.length → ∃ A1 c1, vs[i]? = some (.slice A1 n c1) ∧ Hd (Value.slice A m.length c).ownBlock (Value.slice Af nf cf).ownBlock (fun W' => RdM W' A1 n (rowsOf (m.getD i []))) W
  bel : Below w.heap.size w W
section
variable {w : World} {n : Nat} {A : Option Addr} {c : Nat} {vs : List Value} {m : List (List Pt)} {Af : Option Addr} {cf nf : Nat} {ds : List Nat} {W W' : World}
theorem MetS.same (h : MetS w n A c vs m Af cf nf ds W) (hb : Below W.heap.size W W') : MetS w n A c vs m Af cf nf ds W' :=
  ⟨h.own.same hb, h.far.same hb, fun i hi => by
    obtain ⟨A1, c1, h1, h2⟩ := h.rows i hi
    exact ⟨A1, c1, h1, h2.same hb⟩, below_then h.bel hb⟩
/-- One order more: first the order .. -/
theorem MetS.add {A' : Option Addr} {c' : Nat} {A1 : Option Addr} {c1 : Nat} {o : List Pt} (h : MetS w n A c vs m Af cf nf ds W) (ho : OwnS 23 W' w.heap.size A' (m.length + 1) c' (vs ++ [.slice A1 n c1])) (hg : W.grownBy W' (Value.slice A m.length c).ownBlock)
    (hk : (Value.slice A' (m.length + 1) c').ownBlock = (Value.slice A m.length c).ownBlock ∨ ∃ k, (Value.slice A' (m.length + 1) c').ownBlock = some k ∧ W.heap.size ≤ k)
    (hr : Hd (Value.slice A m.length c).ownBlock (Value.slice Af nf cf).ownBlock (fun W' => RdM W' A1 n (rowsOf o)) W) : MetS w n A' c' (vs ++ [.slice A1 n c1]) (m ++ [o]) Af cf nf ds W' := by
  have hl : (m ++ [o]).length = m.length + 1 := by simp
  refine ⟨by rw [hl]; exact ho, ?_, fun i hi => ?_, h.bel.grown hg h.bel.size (fun k e => (h.own.blk k e).1)⟩
  · refine World.ownsRow.kept h.far hg ?_
    cases hb : (Value.slice Af nf cf).ownBlock with
    | none => exact .inl rfl
    | some k => exact .inr (fun e => owns_apart h.own.1 h.far rows_ne k e.symm hb)
  · rw [hl] at hi ⊢
    by_cases e : i < m.length
    · obtain ⟨A2, c2, h1, h2⟩ := h.rows i e
      refine ⟨A2, c2, by rw [List.getElem?_append_left (by rw [h.own.len]; exact e)]; exact h1, ?_⟩
      rw [getD_pre e]
      exact h2.grow hg (.inl rfl) hk (.inl rfl)
    · obtain rfl : i = m.length := by omega
      refine ⟨A1, c1, by rw [List.getElem?_append_right (by rw [h.own.len]; exact Nat.le_refl _), h.own.len]; simp, ?_⟩
      have e2 : (m ++ [o]).getD m.length [] = o := by simp [List.getD_eq_getElem?_getD]
      rw [e2]
      exact hr.grow hg (.inl rfl) hk (.inl rfl)
/-- .. then how far it lies. -/
theorem MetS.addF {Af' : Option Addr} {cf' : Nat} {d : Nat} (h : MetS w n A c vs m Af cf nf ds W) (ho : Own W' w.heap.size Af' (nf + 1) cf' (ds.map (fun (d : Nat) => (d : Int)) ++ [(d : Int)])) (hg : W.grownBy W' (Value.slice Af nf cf).ownBlock)
    (hk : (Value.slice Af' (nf + 1) cf').ownBlock = (Value.slice Af nf cf).ownBlock ∨ ∃ k, (Value.slice Af' (nf + 1) cf').ownBlock = some k ∧ W.heap.size ≤ k) : MetS w n A c vs m Af' cf' (nf + 1) (ds ++ [d]) W' := by
  refine ⟨h.own.kept hg (fun k e => fun e2 => owns_apart h.own.1 h.far rows_ne k e e2), by rw [List.map_append]; exact ho, fun i hi => ?_, h.bel.grown hg h.bel.size (fun k e => (h.far.row k e).1)⟩
  obtain ⟨A2, c2, h1, h2⟩ := h.rows i hi
  exact ⟨A2, c2, h1, h2.grow hg (.inr rfl) (.inl rfl) hk⟩
end
theorem farD_add {m : List (List Pt)} {o : List Pt} {d : List Nat} {r : Nat} (h : d.length ≤ m.length) : farD (m ++ [o]) d r = farD m d r ++ [r] := by
  unfold farD
  rw [List.length_append, List.length_singleton, show m.length + 1 - d.length = (m.length - d.length) + 1 by omega, List.replicate_succ', List.append_assoc]
theorem farD_self {m : List (List Pt)} {d : List Nat} {r : Nat} (h : m.length ≤ d.length) : farD m d r = d := by
  unfold farD
  rw [show m.length - d.length = 0 by omega]
  simp
theorem farD_len {m : List (List Pt)} {d : List Nat} {r : Nat} (h : d.length ≤ m.length) : (farD m d r).length = m.length := by
  unfold farD; rw [List.length_append, List.length_replicate]; omega

theorem cell_one (W : World) (t : TypeId) (v : Value) : (W.alloc (.cells #[v] t)).cell? ⟨W.heap.size, 0, none⟩ = some v := by
  have h := World.alloc_heap_new W (.cells #[v] t)
  revert h
  generalize W.alloc (.cells #[v] t) = X
  intro h
  simp [World.cell?, h]
theorem intInfo9 : (Try.prog.info? 3).map (fun i => (i.zero, i.size, i.bytes)) = some (some (.int .i64 0), 1, 8) := by kernel_rfl
/-- append of one int, told where the row lies then. -/
theorem wpList_appI {ops : Array Oper} {rest : List Oper} {o : Oper} {a : Act} {Q : Exit → Act → World → Prop} {W : World} (hgd : o.guard = none) (s x : Operand)
    (ho : o.op = .call { callee := .builtin .append, args := #[s, x], argTypes := #[31, 31] })
    {B n c : Nat} {A : Option Addr} {xs : List Int} (hs : a.eval s = .slice A n c) (hown : Own W B A n c xs) {b : Nat} {y : Int} (hx : a.eval x = .slice (some ⟨b, 0, none⟩) 1 1) (hc : W.cell? ⟨b, 0, none⟩ = some (.int .i64 y)) (hn : n + 1 ≤ 1000000) (hB : B ≤ W.heap.size)
    (h : ∀ A' c' W', Own W' B A' (n + 1) c' (xs ++ [y]) → W.grownBy W' (Value.slice A n c).ownBlock → ((Value.slice A' (n + 1) c').ownBlock = (Value.slice A n c).ownBlock ∨ ∃ k, (Value.slice A' (n + 1) c').ownBlock = some k ∧ W.heap.size ≤ k) → wpList Try.prog ops Q rest (a.put o.dst (.slice A' (n + 1) c')) W') : wpList Try.prog ops Q (o :: rest) a W := by
  obtain ⟨i0, hi, hz0, hz1, hz2⟩ := info_parts intInfo9
  refine Go.wpList_append_own_at W hgd s x 31 ho B 3 i0 (.int .i64 0) 1 8 Try.underlying31 hi hz0 hz1 hz2 rfl (by decide) _ n (ints xs) hs hown ⟨b, 0, none⟩ 1 1 [.int .i64 y] hx rfl (fun j u hu => ?_) (fun u hu => ?_) (by unfold maxLen; omega) (by omega) hB fun v' w' r1 g1 _ at1 => ?_
  · match j, hu with
    | 0, hu =>
      obtain rfl : Value.int .i64 y = u := by simpa using hu
      exact hc
  · obtain rfl : u = Value.int .i64 y := by simpa using hu
    rfl
  · obtain ⟨A', c', rfl⟩ : ∃ A' c', v' = .slice A' (n + 1) c' := by
      rcases r1.2 with ⟨e, e0⟩ | ⟨g', cap, cur, e, _⟩
      · omega
      · exact ⟨_, _, e⟩
    exact h A' c' w' (by unfold Own; simpa [ints] using r1) g1 (at1.imp id fun e => ⟨_, e, Nat.le_refl _⟩)

set_option maxRecDepth 100000 in
set_option maxHeartbeats 8000000 in
theorem fewS_any (A : Option Addr) (n c : Nat) (l : List Pt) (w : World) (h : RdM w A n (rowsOf l)) (P : IsPath l) (h5 : n ≤ 5) :
    Calls Try.prog 76 #[.slice A n c] w fun e w' => e = .returned (.tuple #[.int .i64 (((fewP l).getD 0 : Nat) : Int), .bool (fewP l).isSome]) ∧ Below w.heap.size w w' := by
  have hI := specPathIn_any A n c (rowsOf l) w h (small_rows P.hi)
  rw [pathB_rows P] at hI
  have hl : l.length = n := by rw [← rowsOf_len]; exact h.1
  have HP := Lib.hid P
  have HL := Lib.hid hl
  have H1 := Lib.hid h
  have d5 : decide ((n : Int) > 5) = false := by simp; omega
  have hn3 := P.lo
  have HF0 := Lib.hid (show fewP l = fewR n (4000 - 0) [l] [0] 0 from by unfold fewP; rw [hl])
  have H5 := Lib.hid (show l.length ≤ 5 from by omega)
  obtain ⟨fp, efp⟩ : ∃ fp, fp = fewP l := ⟨_, rfl⟩
  rw [← efp] at HF0 ⊢
  clear h P efp hl
  go_enter Try.func76, Try.ntmps76
  go_wp2_with fail
  refine hI.mono ?_
  rintro e w1 ⟨rfl, b1⟩
  have hs1 := b1.size
  have M0 := Lib.hid (show MetS w n (some ⟨w1.heap.size, 0, none⟩) 1 [.slice A n c] [l] (some ⟨w1.heap.size + 1, 0, none⟩) 1 1 [0] ((w1.alloc (.cells #[.slice A n c] 23)).alloc (.cells #[.int .i64 0] 3)) from by
    have o1 := (OwnS.one 23 w1 hs1 (A := A) (m := n) (c := c)).same (below_alloc (Below.refl _ _) (.cells #[.int .i64 0] 3))
    have o2 : Own ((w1.alloc (.cells #[.slice A n c] 23)).alloc (.cells #[.int .i64 0] 3)) w.heap.size (some ⟨w1.heap.size + 1, 0, none⟩) 1 1 [0] := by
      have := Own.lit (w1.alloc (.cells #[.slice A n c] 23)) (B := w.heap.size) (by simp; omega) [0] (by simp)
      rw [World.size_alloc] at this
      exact this
    have bb := below_alloc (below_alloc b1 (.cells #[.slice A n c] 23)) (.cells #[.int .i64 0] 3)
    refine ⟨o1, o2, fun i hi => ?_, bb⟩
    obtain rfl : i = 0 := by simpa using hi
    exact ⟨A, c, rfl, Hd.arg bb (fun W' hz hs => H1.out.moved hz hs) (fun k hk => by
      rcases hk with hk | hk
      · exact (o1.blk k hk).1
      · exact (o2.row k hk).1)⟩)
  have HB0 := Lib.hid (Bfs.start l n)
  clear b1 hI
  go_wp2_with fail
  go_loopw [4, 5, 6] (fun sm sf sk wr => ∃ (k : Nat) (A : Option Addr) (c : Nat) (vs : List Value) (m : List (List Pt)) (Af : Option Addr) (cf : Nat) (ds : List Nat), k ≤ m.length ∧ sm = .slice A m.length c ∧ sf = .slice Af m.length cf ∧ sk = .int .i64 k ∧ MetS w n A c vs m Af cf m.length ds wr ∧ Bfs l n m ds k ∧ fp = fewR n (4000 - k) m ds k) (fun _ _ sk _ => 4000 - (intOf sk).toNat)
  case atStart => exact ⟨0, _, _, _, [l], _, _, [0], by simp, rfl, rfl, rfl, M0.out, HB0.out, HF0.out⟩
  case round =>
    clear M0 HB0 HF0
    obtain ⟨k, A, c, vs, m, Af, cf, ds, hk, rfl, rfl, rfl, hM, hB, hF⟩ := hrel
    have hfew := hB.met.few H5.out
    have HM := Lib.hid hM
    have HB := Lib.hid hB
    have HF := Lib.hid hF
    have HBE := Lib.hid hM.bel
    by_cases hlt : k < m.length
    · obtain ⟨g, rfl, hgl, hc⟩ := hM.own.at hlt
      obtain ⟨A1, c1, hv, hH⟩ := hM.rows k hlt
      rw [hv] at hc
      obtain ⟨x, ex⟩ : ∃ x, x = m.getD k [] := ⟨_, rfl⟩
      have hx : x.Perm l := by rw [ex]; exact hB.met.pm _ (getD_mem' hlt)
      have PX := HP.out.perm hx
      have hCv := l6sConvex_any A1 n c1 (rowsOf x) wr (by rw [ex]; exact hH.out) (pathB_rows PX)
      rw [ptsL_rows] at hCv
      have g1 : (k : Int) < (m.length : Int) := by omega
      have g2 : (0 : Int) ≤ (k : Int) := by omega
      have g3 : ((k : Int)).toNat = k := by omega
      have EX := Lib.hid ex
      cases hcv : convB x with
      | true =>
        rw [hcv] at hCv
        obtain ⟨gf, hgf, _, hgfl⟩ := hM.far.form (by omega)
        subst hgf
        have hfc := hM.far.cell k hlt
        have hdl : k < ds.length := by rw [hB.len]; exact hlt
        have e9 : (ds.map (fun (d : Nat) => (d : Int))).getD k 0 = ((ds.getD k 0 : Nat) : Int) := by simp [List.getD_eq_getElem?_getD, List.getElem?_eq_getElem hdl]
        rw [e9] at hfc
        have HR := Lib.hid (show fp = some (ds.getD k 0) from by rw [HF.out]; exact fewR_hit hlt (by omega) (by rw [← ex]; exact hcv))
        generalize ds.getD k 0 = d at *
        generalize m.length = ml at *
        clear hM hB hF hx PX hv hH ex e9 hcv EX HM HB HF
        go_wp2_with fail
        refine hCv.mono ?_
        rintro e w2 ⟨rfl, b2⟩
        have hfc2 := (b2.cell (p := ⟨gf, k, none⟩) hgfl).trans hfc
        have HBX := Lib.hid (below_then HBE.out b2)
        clear b2 hfc hCv hc
        go_wp2_with fail
        refine bodyPost_ret (results_tmp2 rfl _ _ _) rfl ?_
        rw [HR.out]
        exact ⟨rfl, HBX.out⟩
      | false =>
        rw [hcv] at hCv
        obtain ⟨r, er⟩ : ∃ r, r = ds.getD k 0 + 1 := ⟨_, rfl⟩
        have HST := Lib.hid (show fp = fewR n (4000 - (k + 1)) (expA x n n m) (farD (expA x n n m) ds r) (k + 1) from by
          rw [HF.out, fewR_step hlt (by omega) (by rw [← ex]; exact hcv), ← ex, ← er, show 4000 - k - 1 = 4000 - (k + 1) by omega])
        have HBS := Lib.hid (show Bfs l n (expA x n n m) (farD (expA x n n m) ds r) (k + 1) from by
          have := hB.step hlt (by rw [← ex]; exact hcv)
          rwa [← ex, ← er] at this)
        have HMT := Lib.hid (fun f => hB.met.expA hx n f)
        have HTT := Lib.hid (fun f j => (hB.met.expA hx n f).expT hx f j)
        have HPX := Lib.hid PX
        have HX := Lib.hid hx
        have HDL := Lib.hid hB.len
        have HKL := Lib.hid hlt
        have HXL := Lib.hid (show x.length = n from by rw [hx.length_eq]; exact HL.out)
        have HER := Lib.hid er
        have HIX := Lib.hid (hB.ix k hlt)
        have hkn : k ≤ 3125 := by omega
        have h3n : n ≤ 5 := h5
        have M0 := Lib.hid (show MetS w n (some ⟨g, 0, none⟩) c vs (expA x n 0 m) Af cf (expA x n 0 m).length (farD (expA x n 0 m) ds r) wr from by
          show MetS w n _ c vs m Af cf m.length (farD m ds r) wr
          rw [farD_self (by rw [hB.len]; exact Nat.le_refl _)]
          exact hM)
        clear hM hB hF hx PX hv hH ex hcv HM HB HF hlt er hk hfew g1
        go_wp2_with fail
        refine hCv.mono ?_
        rintro e w2 ⟨rfl, b2⟩
        have M1 := Lib.hid (M0.out.same b2)
        clear b2 hCv hc M0 HBE hgl
        go_wp2_with fail
        go_loopw [4, 5, 7] (fun sm sf sk wr => ∃ (f : Nat) (A : Option Addr) (c : Nat) (vs : List Value) (Af : Option Addr) (cf : Nat), f ≤ n ∧ sm = .slice A (expA x n f m).length c ∧ sf = .slice Af (expA x n f m).length cf ∧ sk = .int .i64 f ∧ MetS w n A c vs (expA x n f m) Af cf (expA x n f m).length (farD (expA x n f m) ds r) wr) (fun _ _ sk _ => n - (intOf sk).toNat)
        case atStart => exact ⟨0, _, _, _, _, _, Nat.zero_le _, rfl, rfl, rfl, M1.out⟩
        case round =>
          clear M1
          obtain ⟨f, A, c, vs, Af, cf, hf, rfl, rfl, rfl, hM⟩ := hrel
          have HM := Lib.hid hM
          by_cases hlf : f < n
          · have vf : IntKind.i64.wrap ((f : Int) + 1) = ((f + 1 : Nat) : Int) := wrap_is (by omega) (by omega) (by omega)
            have gf1 : (f : Int) < (n : Int) := by omega
            have HLF := Lib.hid hlf
            have M2 := Lib.hid (show MetS w n A c vs (expT x f 0 (expA x n f m)) Af cf (expT x f 0 (expA x n f m)).length (farD (expT x f 0 (expA x n f m)) ds r) wr from hM)
            have HSU := Lib.hid (show expA x n (f + 1) m = expT x f (n - 1 - f) (expA x n f m) from rfl)
            have HM9 := Lib.hid (show ∀ j, Met l (expT x f j (expA x n f m)) from HTT.out f)
            have HKM := Lib.hid (show ∀ j, k < (expT x f j (expA x n f m)).length ∧ (expT x f j (expA x n f m)).getD k [] = x from fun j => by
              obtain ⟨s, e⟩ := expA_pre x n m f
              obtain ⟨s2, e2⟩ := expT_pre x f (expA x n f m) j
              have h1 := HKL.out
              rw [e2, e]
              refine ⟨by simp only [List.length_append]; omega, ?_⟩
              rw [List.append_assoc, getD_pre h1]
              exact EX.out.symm)
            have HDM := Lib.hid (show ∀ j, ds.length ≤ (expT x f j (expA x n f m)).length from fun j => by
              obtain ⟨s, e⟩ := expA_pre x n m f
              obtain ⟨s2, e2⟩ := expT_pre x f (expA x n f m) j
              rw [e2, e, HDL.out]
              simp only [List.length_append]; omega)
            have HKD := Lib.hid (show k < ds.length from by rw [HDL.out]; exact HKL.out)
            generalize expA x n f m = mf at *
            clear hM HM hlf hf
            go_wp2_with fail
            go_loopw [4, 5, 8] (fun sm sf sk wr => ∃ (j : Nat) (A : Option Addr) (c : Nat) (vs : List Value) (Af : Option Addr) (cf : Nat), j ≤ n - 1 - f ∧ sm = .slice A (expT x f j mf).length c ∧ sf = .slice Af (expT x f j mf).length cf ∧ sk = .int .i64 ((f + 1 + j : Nat) : Int) ∧ MetS w n A c vs (expT x f j mf) Af cf (expT x f j mf).length (farD (expT x f j mf) ds r) wr) (fun _ _ sk _ => n - (intOf sk).toNat)
            case atStart => exact ⟨0, _, _, _, _, _, Nat.zero_le _, rfl, rfl, rfl, M2.out⟩
            case round =>
              clear M2
              obtain ⟨j, A, c, vs, Af, cf, hj, rfl, rfl, rfl, hM⟩ := hrel
              obtain ⟨t, et⟩ : ∃ t, t = f + 1 + j := ⟨_, rfl⟩
              have hlff := HLF.out
              by_cases hlt : t < n
              · obtain ⟨o, eo⟩ : ∃ o, o = runP x f t := ⟨_, rfl⟩
                have HO := Lib.hid (show expT x f (j + 1) mf = addO (expT x f j mf) o from by rw [eo, et]; rfl)
                have hkm := HKM.out j
                have hdm := HDM.out j
                have hfew := (HM9.out j).few H5.out
                obtain ⟨g, rfl, hgl, hc⟩ := hM.own.at hkm.1
                obtain ⟨A1, c1, hv, hH⟩ := hM.rows k hkm.1
                rw [hv] at hc
                rw [hkm.2] at hH
                have hRn := l7Run_any A1 n c1 f t (rowsOf x) wr hH.out (by omega) (fun i hi => by
                  have := (pathB_true (pathB_rows HPX.out)).2 i (by rw [rowsOf_len, HXL.out]; exact hi)
                  exact this) (by omega) hlt
                rw [ptsL_rows, ← eo] at hRn
                rw [← et]
                have HET := Lib.hid et
                have HM := Lib.hid hM
                have HLT := Lib.hid hlt
                have HCV := Lib.hid hkm
                have gk1 : (k : Int) < ((expT x f j mf).length : Int) := by omega
                have gt1 : (t : Int) < (n : Int) := by omega
                have vt : IntKind.i64.wrap ((t : Int) + 1) = ((t + 1 : Nat) : Int) := wrap_is (by omega) (by omega) (by omega)
                have HDM2 := Lib.hid hdm
                have HFW := Lib.hid hfew
                have hml : (expT x f j mf).length ≤ 3125 := hfew
                generalize expT x f j mf = mj at *
                clear hM hv hH hj eo et hdm hkm hlff hfew
                go_wp2_with fail
                refine hRn.mono ?_
                rintro e w3 ⟨A3, c3, gs, rfl, o3, b3⟩
                have M3 := Lib.hid (HM.out.same b3)
                have HH := Lib.hid (show Hd (Value.slice (some ⟨g, 0, none⟩) mj.length c).ownBlock (Value.slice Af mj.length cf).ownBlock (fun W' => RdM W' A3 n (rowsOf o)) w3 from
                  Hd.new wr.heap.size (fun W' _ hs => (o3.moved hs).rd) (fun k hk => by
                    rcases hk with hk | hk
                    · exact (HM.out.own.blk k hk).2
                    · exact (HM.out.far.row k hk).2))
                clear hRn hc b3 o3 HM
                go_wp2_with fail
                go_loopw [10, 11] (fun sb si wr => ∃ i : Nat, i ≤ mj.length ∧ sb = .bool (decide (o ∈ mj.take i)) ∧ si = .int .i64 i ∧ Below w3.heap.size w3 wr) (fun _ si _ => mj.length - (intOf si).toNat)
                case atStart => exact ⟨0, Nat.zero_le _, by simp, rfl, Below.refl _ _⟩
                case round =>
                  obtain ⟨i, hi, rfl, rfl, hb⟩ := hrel
                  have HB := Lib.hid hb
                  by_cases hli : i < mj.length
                  · have hto : mj.take (i + 1) = mj.take i ++ [mj.getD i []] := by
                      rw [List.take_add_one, List.getD_eq_getElem?_getD, List.getElem?_eq_getElem hli]; rfl
                    have vi : IntKind.i64.wrap ((i : Int) + 1) = ((i + 1 : Nat) : Int) := wrap_is (by omega) (by omega) (by omega)
                    have gi1 : (i : Int) < (mj.length : Int) := by omega
                    have gi2 : (0 : Int) ≤ (i : Int) := by omega
                    have gi3 : ((i : Int)).toNat = i := by omega
                    by_cases hin : o ∈ mj.take i
                    · have d1 : decide (o ∈ mj.take i) = true := by simpa using hin
                      have D2 := Lib.hid (show decide (o ∈ mj.take (i + 1)) = true from by rw [hto]; simpa using .inl hin)
                      rw [d1]
                      clear hto hin hb d1
                      go_wp2_with fail
                      go_roundw
                      case rel => exact ⟨i + 1, by omega, by rw [D2.out], rfl, HB.out⟩
                      case measure => simp [intOf]; omega
                    · have d1 : decide (o ∈ mj.take i) = false := by simpa using hin
                      have M4 := M3.out.same hb
                      obtain ⟨g4, eg4, hgl4, hc4⟩ := M4.own.at hli
                      simp only [Option.some.injEq, Addr.mk.injEq, and_true] at eg4
                      subst eg4
                      obtain ⟨A5, c5, hv5, hH5⟩ := M4.rows i hli
                      rw [hv5] at hc4
                      have hE := l7Equal_any A5 A3 n c5 c3 (mj.getD i []) o wr hH5.out (HH.out.same hb).out (by omega)
                      have D2 := Lib.hid (show decide (o ∈ mj.take (i + 1)) = decide (mj.getD i [] = o) from by
                        rw [hto, Bool.eq_iff_iff]
                        simp only [decide_eq_true_eq, List.mem_append, List.mem_singleton]
                        exact ⟨fun h => h.elim (fun h => absurd h hin) (fun h => h.symm), fun h => .inr h.symm⟩)
                      rw [d1]
                      generalize decide (mj.getD i [] = o) = bq at *
                      clear hto hin hb d1 M4 hv5 hH5
                      go_wp2_with fail
                      refine hE.mono ?_
                      rintro e w5 ⟨rfl, b5⟩
                      have HB5 := Lib.hid (HB.out.trans (b5.mono HB.out.size))
                      clear b5 hE hc4
                      go_wp2_with fail
                      go_roundw
                      case rel => exact ⟨i + 1, by omega, by rw [D2.out], rfl, HB5.out⟩
                      case measure => simp [intOf]; omega
                  · obtain rfl : i = mj.length := by omega
                    rw [List.take_length]
                    have M5 := M3.out.same hb
                    have HH5 := HH.out.same hb
                    by_cases hin : o ∈ mj
                    · have d1 : decide (o ∈ mj) = true := by simpa using hin
                      have HE := Lib.hid (show expT x f (j + 1) mf = mj from by rw [HO.out]; unfold addO; rw [if_pos hin])
                      have M6 := Lib.hid M5
                      rw [d1]
                      clear M5 HH5 hin hb d1
                      go_wp2_with fail
                      go_roundw
                      case rel => exact ⟨j + 1, _, _, vs, _, _, by have := HLT.out; have := HET.out; omega, by rw [HE.out], by rw [HE.out], by rw [HET.out]; congr 2, by rw [HE.out]; exact M6.out⟩
                      case measure => simp [intOf]; omega
                    · have d1 : decide (o ∈ mj) = false := by simpa using hin
                      have HE := Lib.hid (show expT x f (j + 1) mf = mj ++ [o] from by rw [HO.out]; unfold addO; rw [if_neg hin])
                      have M6 := Lib.hid (M5.same (below_alloc (Below.refl _ _) (.cells #[.slice A3 n c3] 23)))
                      have H6 := Lib.hid (HH5.same (below_alloc (Below.refl _ _) (.cells #[.slice A3 n c3] 23)))
                      have HC6 := cell_one wr 23 (.slice A3 n c3)
                      obtain ⟨gf, rfl, _, _⟩ := M5.far.form (by omega)
                      have HD := Lib.hid (show ((farD mj ds r).map (fun (d : Nat) => (d : Int))).getD k 0 = ((ds.getD k 0 : Nat) : Int) from by
                        have h1 : k < (farD mj ds r).length := by rw [farD_len HDM2.out]; exact HCV.out.1
                        have h2 := far_old (m := mj) (r := r) HKD.out
                        rw [List.getD_eq_getElem?_getD, List.getElem?_map, List.getElem?_eq_getElem h1, ← h2, List.getD_eq_getElem?_getD, List.getElem?_eq_getElem h1]
                        rfl)
                      have HFA := Lib.hid (show farD (mj ++ [o]) ds r = farD mj ds r ++ [r] from farD_add HDM2.out)
                      have hix := HIX.out
                      have her := HER.out
                      obtain ⟨dk, edk⟩ : ∃ dk, dk = ds.getD k 0 := ⟨_, rfl⟩
                      rw [← edk] at HD hix her
                      have vd : IntKind.i64.wrap ((dk : Int) + 1) = (r : Int) := wrap_is (by omega) (by omega) (by omega)
                      have hsz := M6.out.bel.size
                      rw [d1]
                      clear M5 HH5 hin hb d1 hix her edk
                      go_wp2_with (first
                        | (at_builtin; refine wpList_appS Try.underlying83 rows3 rfl (.tmp 76) (.tmp 78) rfl rfl M6.out.own rfl HC6 (by omega) hsz ?_; intro A7 c7 W7 o7 g7 at7; have M7 := Lib.hid (M6.out.add o7 g7 at7 H6.out); have hf7 := M7.out.far.cell k HCV.out.1; rw [HD.out] at hf7; have hz7 := M7.out.bel.size; have M8 := Lib.hid (M7.out.same (below_alloc (Below.refl _ _) (.cells #[.int .i64 (r : Int)] 3))); have HC8 := cell_one W7 3 (.int .i64 (r : Int)); have hsz8 := M8.out.bel.size; clear o7 g7 at7)
                        | (at_builtin; refine wpList_appI rfl (.tmp 80) (.tmp 86) rfl rfl M8.out.far rfl HC8 (by omega) hsz8 ?_; intro A9 c9 W9 o9 g9 at9; have M9 := Lib.hid (M8.out.addF o9 g9 at9)))
                      go_roundw
                      case rel => exact ⟨j + 1, A7, c7, _, A9, c9, by have := HLT.out; have := HET.out; omega, by rw [HE.out]; simp, by rw [HE.out]; simp, by rw [HET.out]; congr 2, by rw [HE.out, HFA.out, List.length_append]; exact M9.out⟩
                      case measure => simp [intOf]; omega
              · have ej : j = n - 1 - f := by omega
                have HM2 := Lib.hid hM
                have HSU2 := Lib.hid (show expA x n (f + 1) m = expT x f j mf from by rw [HSU.out, ej])
                rw [← et]
                have gt1 : ¬ (t : Int) < (n : Int) := by omega
                have HJJ := Lib.hid (show f + 1 ≤ n from by omega)
                generalize expT x f j mf = mj at *
                clear hM ej hj et hlff
                go_wp2_with fail
                go_roundw
                case rel => exact ⟨f + 1, _, _, vs, _, _, HJJ.out, by rw [HSU2.out], by rw [HSU2.out], rfl, by rw [HSU2.out]; exact HM2.out⟩
                case measure => have := HJJ.out; simp [intOf]; omega
          · obtain rfl : f = n := by omega
            have HJJ := Lib.hid (show k + 1 ≤ (expA x f f m).length from by
              obtain ⟨s, e⟩ := expA_pre x f m f
              rw [e, List.length_append]; have := HKL.out; omega)
            have gt1 : ¬ (f : Int) < (f : Int) := by omega
            have vk : IntKind.i64.wrap ((k : Int) + 1) = ((k + 1 : Nat) : Int) := wrap_is (by omega) (by omega) (by omega)
            generalize expA x f f m = mj at *
            clear hM hf hlf
            go_wp2_with fail
            go_roundw
            case rel => exact ⟨k + 1, _, _, vs, mj, _, _, farD mj ds r, HJJ.out, rfl, rfl, rfl, HM.out, HBS.out, HST.out⟩
            case measure => simp [intOf]; omega
    · have HR := Lib.hid (show fp = none from by rw [HF.out]; exact fewR_done (by omega))
      generalize m.length = ml at *
      clear hM hB hF HM HB HF
      go_wp2_with fail
      refine bodyPost_ret (results_tmp2 rfl _ _ _) rfl ?_
      rw [HR.out]
      exact ⟨rfl, HBE.out⟩

theorem rows_form9 {L : List (List Int)} (hp : pathB L = true) : L = rowsOf (ptsL L) := by
  obtain ⟨hP, hst⟩ := pathB_true hp
  unfold rowsOf ptsL
  rw [List.map_map]
  conv => lhs; rw [← List.map_id L]
  refine List.map_congr_left fun r hr => ?_
  obtain ⟨i, hi, rfl⟩ := List.getElem_of_mem hr
  have h2 := (stepRow_pt (hst i hi)).2
  have e : rowL L i = L[i] := by simp [rowL, List.getD_eq_getElem?_getD, hi]
  rw [e] at h2
  generalize L[i] = r at h2
  match r, h2 with
  | [a, b], _ => rfl
noncomputable def fwB (L : List (List Int)) : Bool := pmB L 5 && (fewP (ptsL L)).isSome
noncomputable def fwI (L : List (List Int)) : Int := if pmB L 5 then (((fewP (ptsL L)).getD 0 : Nat) : Int) else 0
theorem fwB_no {L : List (List Int)} (h : pmB L 5 = false) : fwB L = false := by unfold fwB; rw [h]; rfl
theorem fwI_no {L : List (List Int)} (h : pmB L 5 = false) : fwI L = 0 := by unfold fwI; rw [h]; rfl
theorem fwB_yes {l : List Pt} (h : pmB (rowsOf l) 5 = true) : fwB (rowsOf l) = (fewP l).isSome := by unfold fwB; rw [h, ptsL_rows]; rfl
theorem fwI_yes {l : List Pt} (h : pmB (rowsOf l) 5 = true) : fwI (rowsOf l) = (((fewP l).getD 0 : Nat) : Int) := by unfold fwI; rw [h, ptsL_rows]; rfl

set_option maxRecDepth 100000 in
set_option maxHeartbeats 4000000 in
theorem specOrderFewest_any (A : Option Addr) (n c : Nat) (L : List (List Int)) (w : World) (h : RdM w A n L) (hs : SmallM L) :
    Calls Try.prog 76 #[.slice A n c] w fun e w' => e = .returned (.tuple #[.int .i64 (fwI L), .bool (fwB L)]) ∧ Below w.heap.size w w' := by
  have hI := specPathIn_any A n c L w h hs
  have HL := Lib.hid h.1
  cases hp : pathB L with
  | false =>
    have e1 : pmB L 5 = false := by unfold pmB; rw [hp]; rfl
    rw [fwB_no e1, fwI_no e1]
    rw [hp] at hI
    clear h hs hp e1
    go_enter Try.func76, Try.ntmps76
    go_wp2_with fail
    refine hI.mono ?_
    rintro e w1 ⟨rfl, b1⟩
    go_wp2_with fail
    refine bodyPost_ret (results_tmp2 rfl _ _ _) rfl ?_
    exact ⟨rfl, b1⟩
  | true =>
    by_cases h5 : n ≤ 5
    · have e1 : pmB L 5 = true := by unfold pmB; rw [hp, HL.out]; simpa using h5
      have hf : L = rowsOf (ptsL L) := rows_form9 hp
      have P := (pathB_true hp).1
      generalize ptsL L = l at *
      subst hf
      rw [fwB_yes e1, fwI_yes e1]
      exact fewS_any A n c l w h P h5
    · have e1 : pmB L 5 = false := by unfold pmB; rw [hp, HL.out]; simp; omega
      rw [fwB_no e1, fwI_no e1]
      rw [hp] at hI
      have d5 : decide ((n : Int) > 5) = true := by simp; omega
      clear h hs hp e1 h5
      go_enter Try.func76, Try.ntmps76
      go_wp2_with fail
      refine hI.mono ?_
      rintro e w1 ⟨rfl, b1⟩
      go_wp2_with fail
      refine bodyPost_ret (results_tmp2 rfl _ _ _) rfl ?_
      exact ⟨rfl, b1⟩
end Go.Proofs.Ythpgenkdiokpeaa
