/- Joined: Ring, Around. -/
import Derived.Test.YtdnegamminhbfaaDiv
import Derived.RangeFuncNested
import Derived.RangeFuncBound
import Derived.RangeFuncCalls
import Derived.RangeFuncLeaves
import Derived.RangeFuncBox
import Derived.Shelf.Abstract
import Derived.Shelf.RegionOpen
import Derived.OwnWalkIn
import Derived.TacticsInMore
import Derived.LoopNIn
import Derived.LoopIn
import Derived.BigRegionIn
import Derived.Stop.RegionWithIn
import Derived.LaidEqlPtr
/- Corners: a ring of blocks; the step of a corner. -/
namespace Go.Proofs.Ytdnegamminhbfaa
open Go.RowKit Go.Sort Go.Lib

abbrev ptrV (g : Nat) : Value := .pointer (some ⟨g, 0, none⟩)
abbrev cnO (x y : Int) (g2 : Nat) : Obj := .cells #[.int .i64 x, .int .i64 y, ptrV g2] 105
/-- A corner's block. -/
def CnAt (w : World) (g : Nat) (x y : Int) (g2 : Nat) : Prop := w.heap[g]? = some (.cells #[.int .i64 x, .int .i64 y, ptrV g2] 105 (0, 0))
theorem CnAt.lt {w : World} {g g2 : Nat} {x y : Int} (h : CnAt w g x y g2) : g < w.heap.size := (Array.getElem?_eq_some_iff.1 h).1
theorem CnAt.same {w w' : World} {g g2 : Nat} {x y : Int} (h : CnAt w g x y g2) (hb : Below w.heap.size w w') : CnAt w' g x y g2 := (hb.block _ h.lt).trans h
theorem CnAt.cells {w : World} {g g2 : Nat} {x y : Int} (h : CnAt w g x y g2) : w.cell? ⟨g, 0, none⟩ = some (.int .i64 x) ∧ w.cell? ⟨g, 1, none⟩ = some (.int .i64 y) ∧ w.cell? ⟨g, 2, none⟩ = some (ptrV g2) := by
  refine ⟨?_, ?_, ?_⟩
  · rw [cell_of_row w _ 0 _ _ _ h]; rfl
  · rw [cell_of_row w _ 1 _ _ _ h]; rfl
  · rw [cell_of_row w _ 2 _ _ _ h]; rfl

set_option maxRecDepth 100000 in
set_option maxHeartbeats 4000000 in
theorem step_any (g g2 g3 : Nat) (x y u v : Int) (w : World) (h : CnAt w g x y g2) (h2 : CnAt w g2 u v g3) (hx : -1000000 ≤ u - x ∧ u - x ≤ 1000000) (hy : -1000000 ≤ v - y ∧ v - y ≤ 1000000) :
    Calls Try.prog 89 #[ptrV g] w fun e w' => e = .returned (vecX (u - x) (v - y)) ∧ Below w.heap.size w w' := by
  have hb := below_alloc (Below.refl w.heap.size w) (vecO 0 0)
  obtain ⟨k0, k1, k2⟩ := (h.same hb).cells
  obtain ⟨k3, k4, k5⟩ := (h2.same hb).cells
  have hR := World.alloc_heap_new w (vecO 0 0)
  have hM := fun W => minus_any u v x y W hx hy
  have HB := Lib.hid hb
  have HR := Lib.hid hR
  clear h h2 hx hy hb hR
  go_enter Try.func89, Try.ntmps89
  go_wp2_with fail
  go_region_with (go_at_call 131; refine (hM _).mono ?_; rintro e w3 ⟨rfl, b3⟩; have hR3 := (b3.block _ (Array.getElem?_eq_some_iff.1 HR.out).1).trans HR.out; obtain ⟨j0, j1, f0, f1⟩ := pr_cells hR3; have hb3 := (HB.out.drew).trans (b3.mono HB.out.size); clear b3)
  all_goals
    go_wp2_with fail
    have hRn := pr_set hR3 (.int .i64 (u - x)) (.int .i64 (v - y))
    have b5 := pr_below hb3 (Nat.le_refl _) (.int .i64 (u - x)) (.int .i64 (v - y))
    generalize (w3.setCell ⟨w.heap.size, 0, none⟩ (.int .i64 (u - x))).setCell ⟨w.heap.size, 1, none⟩ (.int .i64 (v - y)) = W4 at hRn b5 ⊢
    obtain ⟨u0, u1, _, _⟩ := pr_cells hRn
    refine bodyPost_ret (v := vecX (u - x) (v - y)) ?_ rfl ⟨rfl, b5⟩
    simp [results, Try.f89, go_sem, u0, u1]

theorem isStepNumber_any (x : Int) (w : World) : Calls Try.prog 154 #[.int .i64 x] w fun e w' => e = .returned (.bool (decide (-9 ≤ x) && decide (x ≤ 9))) ∧ w = w' := by
  by_cases h1 : -9 ≤ x
  · have d1 : decide (x ≥ -9) = true := by simpa using h1
    go_enter Try.func154, Try.ntmps154
    go_wp2
    go_ret
    exact ⟨by simp [h1], rfl⟩
  · have d1 : decide (x ≥ -9) = false := by simpa using h1
    go_enter Try.func154, Try.ntmps154
    go_wp2
    go_ret
    exact ⟨by simp, rfl⟩
end Go.Proofs.Ytdnegamminhbfaa

/- The iterator of corners: it gives each of the ring once, or stops where a round has said so. -/
namespace Go.Proofs.Ytdnegamminhbfaa
open Go.RowKit Go.Sort Go.Lib Go.Shelf
attribute [local go_sem] Oper.semAt_some

/-- A ring of corners. -/
structure Ring (w : World) (gs : List Nat) (ps : List Pt) : Prop where
  len : gs.length = ps.length
  pos : 0 < ps.length
  nodup : gs.Nodup
  cells : ∀ i, i < ps.length → CnAt w (gs.getD i 0) (atP ps i).1 (atP ps i).2 (gs.getD ((i + 1) % ps.length) 0)
theorem Ring.lt {w : World} {gs : List Nat} {ps : List Pt} (h : Ring w gs ps) {i : Nat} (hi : i < ps.length) : gs.getD i 0 < w.heap.size := (h.cells i hi).lt
theorem Ring.kept {w w' : World} {gs : List Nat} {ps : List Pt} (h : Ring w gs ps) (hb : ∀ k, k < w.heap.size → w'.heap[k]? = w.heap[k]?) : Ring w' gs ps :=
  ⟨h.len, h.pos, h.nodup, fun i hi => (hb _ (h.lt hi)).trans (h.cells i hi)⟩
theorem Ring.same {w w' : World} {gs : List Nat} {ps : List Pt} (h : Ring w gs ps) (hb : Below w.heap.size w w') : Ring w' gs ps := h.kept hb.block
theorem Ring.inj {w : World} {gs : List Nat} {ps : List Pt} (h : Ring w gs ps) {i j : Nat} (hi : i < ps.length) (hj : j < ps.length) (e : gs.getD i 0 = gs.getD j 0) : i = j := by
  have hi' : i < gs.length := by rw [h.len]; exact hi
  have hj' : j < gs.length := by rw [h.len]; exact hj
  have e1 : gs.getD i 0 = gs[i] := by simp [List.getD_eq_getElem?_getD, hi']
  have e2 : gs.getD j 0 = gs[j] := by simp [List.getD_eq_getElem?_getD, hj']
  rw [e1, e2] at e
  exact (List.getElem_inj h.nodup).1 e

/-- What is there below B, and the box of the iterator, lies as it lay. -/
def KpC (B cb : Nat) (W W' : World) : Prop := (∀ k, k < B → W'.heap[k]? = W.heap[k]?) ∧ W'.heap[cb]? = W.heap[cb]?
theorem KpC.refl (B cb : Nat) (W : World) : KpC B cb W W := ⟨fun _ _ => rfl, rfl⟩
theorem KpC.trans {B cb : Nat} {X Y Z : World} (h : KpC B cb X Y) (k : KpC B cb Y Z) : KpC B cb X Z := ⟨fun i hi => (k.1 i hi).trans (h.1 i hi), k.2.trans h.2⟩
theorem KpC.put {B cb M : Nat} (hB : B ≤ M) (hcb : cb < M) (W : World) (l : Nat) (o o' : Obj) (h : M ≤ l) (_ : W.heap[l]? = some o) (_ : o.isCells = false) (_ : o.isWalk = false) : KpC B cb W (W.putObj l o') := by
  have hg := grownBy_putObj' W l o'
  have hsz : (W.putObj l o').heap.size = W.heap.size := by unfold World.putObj; simp
  have key : ∀ k, k ≠ l → (W.putObj l o').heap[k]? = W.heap[k]? := fun k hk => by
    rcases Nat.lt_or_ge k W.heap.size with h1 | h1
    · exact hg.block k h1 (fun e => by injection e; omega)
    · rw [Array.getElem?_eq_none h1]; exact Array.getElem?_eq_none (by rw [hsz]; exact h1)
  exact ⟨fun k hk => key k (by omega), key cb (by omega)⟩
theorem KpC.of {B cb : Nat} {W W' : World} {row : Option Nat} (hg : W.grownBy W' row) (hB : B ≤ W.heap.size) (hcb : cb < W.heap.size) (h1 : ∀ k, row = some k → B ≤ k ∧ k ≠ cb) : KpC B cb W W' :=
  ⟨fun k hk => hg.block k (by omega) (fun e => by have := (h1 k e.symm).1; omega), hg.block cb hcb (fun e => (h1 cb e.symm).2 rfl)⟩
theorem KpC.below {B cb M : Nat} {W W' : World} (h : Below M W W') (hB : B ≤ M) (hcb : cb < M) : KpC B cb W W' := ⟨fun k hk => h.block k (by omega), h.block cb hcb⟩
theorem KpC.cell {B cb : Nat} {W W' : World} (h : KpC B cb W W') (o : Nat) : W'.cell? ⟨cb, o, none⟩ = W.cell? ⟨cb, o, none⟩ := World.cell?_of_block (a := ⟨cb, o, none⟩) h.2
theorem jdrew {β : Type} {B : Nat} {J : β → World → Prop} (h : AbidesFrom B J) {s : β} {W : World} (hj : J s W) : J s W.drew := h s W W.drew none hj ⟨rfl, rfl, rfl, Nat.le_refl _, fun _ _ _ => rfl⟩ (fun r e => by cases e)

def encC (gs : List Nat) {n : Nat} (i : Fin n) : Array Value := #[ptrV (gs.getD i.1 0)]
def fz {n : Nat} (h : 0 < n) (i : Nat) : Fin n := ⟨i % n, Nat.mod_lt _ h⟩
def firsts {n : Nat} (h : 0 < n) (k : Nat) : List (Fin n) := (List.range k).map (fz h)
theorem firsts_succ {n : Nat} (h : 0 < n) (k : Nat) : firsts h (k + 1) = firsts h k ++ [fz h k] := by simp [firsts, List.range_succ]
theorem firsts_len {n : Nat} (h : 0 < n) (k : Nat) : (firsts h k).length = k := by simp [firsts]
theorem fz_val {n : Nat} (h : 0 < n) {i : Nat} (hi : i < n) : (fz h i).1 = i := Nat.mod_eq_of_lt hi

theorem cnInfo : (Try.prog.info? 105).map (fun i => i.size) = some 3 := by kernel_rfl
theorem ptr_same (g : Nat) (W : World) : (binOp .eql 66 (ptrV g) (ptrV g)).run Try.prog W = .ok (.bool true) W := by
  obtain ⟨j, hj, _⟩ := Option.map_eq_some_iff.1 cnInfo
  exact run_eql_ptr_same W _ Try.underlying66 hj
theorem ptr_other {g g' g2 g3 : Nat} {x y u v : Int} {W : World} (h : CnAt W g x y g2) (h' : CnAt W g' u v g3) (hne : g ≠ g') : (binOp .eql 66 (ptrV g) (ptrV g')).run Try.prog W = .ok (.bool false) W := by
  obtain ⟨j, hj, hs⟩ := Option.map_eq_some_iff.1 cnInfo
  exact run_eql_ptr_other W Try.underlying66 hj (by rw [hs]; decide) (fun e => hne (by injection e)) h h'
/-- Which place of the ring a pointer is. -/
def posOf (gs : List Nat) : Value → Nat
  | .pointer (some a) => gs.idxOf a.block
  | _ => 0
theorem idx_nodup : ∀ {l : List Nat} {k : Nat}, l.Nodup → k < l.length → l.idxOf (l.getD k 0) = k
  | a :: l, 0, _, _ => by simp
  | a :: l, k + 1, h, hk => by
    have h' := List.nodup_cons.1 h
    have hk' : k < l.length := by simpa using hk
    have e : (a :: l).getD (k + 1) 0 = l.getD k 0 := by simp
    have hm : l.getD k 0 ∈ l := by simp [List.getD_eq_getElem?_getD, hk']
    have hne : a ≠ l.getD k 0 := fun e => h'.1 (e ▸ hm)
    rw [e, List.idxOf_cons, beq_eq_false_iff_ne.2 hne, idx_nodup h'.2 hk']
    rfl
/-- What a round has answered. -/
def SaidC (B cb : Nat) {n : Nat} (J Jx : List (Fin n) → World → Prop) (l : List (Fin n)) (W1 : World) (v : Bool) (W' : World) : Prop := (v = true ∧ J l W' ∧ KpC B cb W1 W') ∨ (v = false ∧ Jx l W')

set_option maxHeartbeats 1000000 in
theorem around_in (F : Fence) (n : Nat) (h5 : F.fn 123) (hro : F.round = none) (g : Nat) (w : World) :
    CallsIn F n Try.prog 123 #[ptrV g] w fun e w' => e = .returned (.func (.func 145) #[] #[ptrV w.heap.size]) ∧ w' = w.alloc (.cells #[ptrV g] 66) := by
  refine callsIn_of_wp Try.func123 rfl h5 ?_ hro
  simp only [Try.ntmps123, List.size_toArray, List.length_cons, List.length_nil, Nat.reduceAdd, Nat.reduceSub, Array.replicate_succ, Array.replicate_zero, List.push_toArray, List.append_toArray, List.nil_append, List.cons_append]
  gi_wp2
  go_ret
  exact ⟨rfl, rfl⟩

set_option maxRecDepth 100000 in
set_option maxHeartbeats 4000000 in
theorem around1_in (m : Nat) (l B cb : Nat) (gs : List Nat) (ps : List Pt) (hn8 : ps.length < 1000000) (J Jx : List (Fin ps.length) → World → Prop) (M : Nat) (hJ : AbidesFrom M J) (W : World) (hR : Ring W gs ps) (hps : 0 < ps.length) (hB : ∀ i, i < ps.length → gs.getD i 0 < B)
    (hY : ∀ pre x W, J pre W → pre.length < 1000000 → YieldAt Fence.wide (m - 1) Try.prog l (encC gs x) W fun e W' =>
      (e = .returned (.bool true) ∧ J (pre ++ [x]) W' ∧ KpC B cb W W') ∨ (e = .returned (.bool false) ∧ Jx (pre ++ [x]) W'))
    (hBs : W.cell? ⟨cb, 0, none⟩ = some (ptrV (gs.getD 0 0))) (h0 : J [] W) :
    CallsIn Fence.wide m Try.prog 145 #[.func (.yield l) #[] #[], ptrV cb] W fun e W' => (∃ v, e = .returned v) ∧
      ((∃ ys, ys = firsts hps ps.length ∧ J ys W') ∨ (∃ pre, True ∧ Jx pre W')) := by
  have hro : Fence.wide.round = none := rfl
  refine callsIn_of_wp Try.func145 rfl trivial ?_ hro
  simp only [Try.ntmps145, List.size_toArray, List.length_cons, List.length_nil, Nat.reduceAdd, Nat.reduceSub, Array.replicate_succ, Array.replicate_zero, List.push_toArray, List.append_toArray, List.nil_append, List.cons_append]
  have HP : ∀ k, k < ps.length → posOf gs (ptrV (gs.getD k 0)) = k := fun k hk => idx_nodup hR.nodup (by rw [hR.len]; exact hk)
  have HI := fun {k : Nat} (h0 : k ≠ 0) (hk : k < ps.length) (e : gs.getD k 0 = gs.getD 0 0) => h0 (hR.inj hk hps e)
  obtain ⟨g0, eg⟩ : ∃ g0, g0 = gs.getD 0 0 := ⟨_, rfl⟩
  rw [← eg] at hBs HI
  have EG := Lib.hid eg
  have HR := Lib.hid hR
  have HJ0 : J (firsts hps 0) W := h0
  clear eg h0 hR
  gi_wp2
  gi_loopw [3] (fun at_ wr => ∃ k : Nat, k < ps.length ∧ at_ = ptrV (gs.getD k 0) ∧ J (firsts hps k) wr ∧ KpC B cb W wr) (fun v _ => ps.length - posOf gs v)
  case atStart => exact ⟨0, hps, by rw [EG.out], HJ0, KpC.refl _ _ _⟩
  case round =>
    obtain ⟨k, hk, rfl, hJs, hnx⟩ := hrel
    obtain ⟨fn, tmps, assign, body, hy, hR0⟩ := hY (firsts hps k) (fz hps k) wr hJs (by rw [firsts_len]; omega)
    have hR1 := hR0.mono (R' := fun e W' => ∃ v, e = .returned (.bool v) ∧ SaidC B cb J Jx (firsts hps (k + 1)) wr v W') (fun e W' h => by
      rw [firsts_succ]
      rcases h with ⟨rfl, h1, h2⟩ | ⟨rfl, h1⟩
      · exact ⟨true, rfl, .inl ⟨rfl, h1, h2⟩⟩
      · exact ⟨false, rfl, .inr ⟨rfl, h1⟩⟩)
    unfold encC at hy
    rw [fz_val hps hk] at hy
    have hPk := HP k hk
    have hCk : ∀ W', KpC B cb wr W' → CnAt W' (gs.getD k 0) (atP ps k).1 (atP ps k).2 (gs.getD ((k + 1) % ps.length) 0) ∧ W'.cell? ⟨cb, 0, none⟩ = some (ptrV g0) := fun W' h' =>
      ⟨(((hnx.trans h').1 _ (hB k hk))).trans (HR.out.cells k hk), ((hnx.trans h').cell 0).trans hBs⟩
    have HX := Lib.hid hnx
    have HS := fun hk1 : k + 1 < ps.length => (show gs.getD ((k + 1) % ps.length) 0 = gs.getD (k + 1) 0 by rw [Nat.mod_eq_of_lt hk1])
    have HE := fun hk1 : ¬ k + 1 < ps.length => (show gs.getD ((k + 1) % ps.length) 0 = g0 by rw [show k + 1 = ps.length by omega, Nat.mod_self, EG.out])
    have HPn := HP (k + 1)
    have HIn := fun hk1 : k + 1 < ps.length => fun e => HI (Nat.succ_ne_zero k) hk1 e
    generalize gs.getD k 0 = gk at *
    generalize gs.getD ((k + 1) % ps.length) 0 = gn at *
    generalize (atP ps k).1 = px at *
    generalize (atP ps k).2 = py at *
    have HH := Lib.hid (And.intro HS (And.intro HE (And.intro HPn HIn)))
    have HBd := Lib.hid hB
    clear hR0 hY hJs hnx HS HE HPn HIn HI HP hB HJ0
    have HC := Lib.hid hCk
    have hps0 := hPk
    clear hCk hPk hBs
    gi_wp2
    refine ⟨fun h => (by cases h), hR1.mono ?_⟩
    rintro e W3 ⟨v, rfl, h3⟩
    rcases h3 with ⟨rfl, h3, hk3⟩ | ⟨rfl, h3⟩
    · obtain ⟨cn, cc⟩ := HC.out W3 hk3
      obtain ⟨_, _, c2⟩ := cn.cells
      have HX3 := Lib.hid (HX.out.trans hk3)
      have HJ3 := Lib.hid (jdrew hJ h3)
      clear h3 hk3 cn hy
      by_cases hk1 : k + 1 < ps.length
      · have hne : gn ≠ g0 := fun e => HH.out.2.2.2 hk1 (by rw [← HH.out.1 hk1]; exact e)
        have hps1 : posOf gs (ptrV gn) = k + 1 := by rw [HH.out.1 hk1]; exact HH.out.2.2.1 hk1
        have EN := Lib.hid (HH.out.1 hk1)
        have q1 : CnAt W3.drew gn (atP ps (k + 1)).1 (atP ps (k + 1)).2 (gs.getD ((k + 1 + 1) % ps.length) 0) := by rw [EN.out]; exact (HX3.out.1 _ (HBd.out (k + 1) hk1)).trans (HR.out.cells (k + 1) hk1)
        have q2 : CnAt W3.drew g0 (atP ps 0).1 (atP ps 0).2 (gs.getD ((0 + 1) % ps.length) 0) := by rw [EG.out]; exact (HX3.out.1 _ (HBd.out 0 hps)).trans (HR.out.cells 0 hps)
        have hq := ptr_other q1 q2 hne
        clear q1 q2 hne
        gi_wp2
        gi_region
        gi_wp2
        go_roundw
        case rel => exact ⟨k + 1, hk1, by rw [EN.out], HJ3.out, HX3.out⟩
        case measure => rw [hps0, hps1]; omega
      · obtain rfl : gn = g0 := HH.out.2.1 hk1
        have hq := ptr_same gn W3.drew
        have HK := Lib.hid (show k + 1 = ps.length by omega)
        gi_wp2
        gi_region
        gi_wp2
        refine bodyPost_ret (results_none rfl _ _ _) rfl ?_
        exact ⟨⟨_, rfl⟩, .inl ⟨_, congrArg (firsts hps) HK.out, HJ3.out⟩⟩
    · gi_wp2
      go_end0
      exact ⟨⟨_, rfl⟩, .inr ⟨_, trivial, h3⟩⟩
end Go.Proofs.Ytdnegamminhbfaa
