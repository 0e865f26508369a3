/- The program's points inside, asked one by one. -/
import Derived.Test.YthpgenkdiokpeaaPathI6
import Derived.Test.YthpgenkdiokpeaaBox
import Derived.Sort.LoopGhostIn
import Derived.Scope
namespace Go.Proofs.Ythpgenkdiokpeaa
open Go.RowKit Go.Sort Go.Lib Go.Shelf
attribute [local go_sem] Oper.semAt_some bAtU

section
variable {F : Fence} {n : Nat} {P : Program} {Q : Exit → Act → World → Prop} {a : Act} {w : World}
theorem stepR_scope {b : Frame} {k : List Item} {cs : List Frame} {c : Code} : step P (lone (b.atR a (.code (.scope c) :: k)) cs w) = .next (lone (b.atR a (.code c :: .inScope c :: k)) cs w) :=
  step_lone_go (by simp [stepG, stepG.exec, Frame.atR])
theorem stepR_inScope {b : Frame} {k : List Item} {cs : List Frame} {c : Code} : step P (lone (b.atR a (.inScope c :: k)) cs w) = .next (lone (b.atR a k) cs w) :=
  step_lone_go (by simp [stepG, stepG.exec, Frame.atR])
theorem wpIn_scope_straight {c : Code} (h : c.wpIn F n P (Exit.noGoto Q) a w) : (Code.scope c).wpIn F n P Q a w := by
  intro b k cs hro hb hr
  have h0 : (lone (b.atR a (.code (.scope c) :: k)) cs w).fenced P F := fenced_calm hb hr rfl
  obtain ⟨e, a₁, w₁, hq, harr⟩ := h b (.inScope c :: k) cs hro hb hr
  cases e with
  | normal => exact ⟨.normal, a₁, w₁, hq, .head h0 stepR_scope (StepsIn.trans harr (.one (fenced_calm hb hr rfl) stepR_inScope))⟩
  | exit id =>
    have hx : exitTo id (.inScope c :: k) = exitTo id k := by simp [exitTo]
    exact ⟨.exit id, a₁, w₁, hq, fun k' hk => .head h0 stepR_scope (harr.1 k' (by rw [hx]; exact hk)),
      fun hr' hk => let ⟨k₁, h1, h2⟩ := harr.2 hr' (by rw [hx]; exact hk); ⟨k₁, h1, .head h0 stepR_scope h2⟩⟩
  | goto l => exact hq.elim
  | ret => exact ⟨_, a₁, w₁, hq, .of_steps (.one h0 stepR_scope) harr⟩
  | panic ch => exact ⟨_, a₁, w₁, hq, .of_steps (.one h0 stepR_scope) harr⟩
  | outgrown => exact ⟨_, a₁, w₁, hq, .of_steps (.one h0 stepR_scope) harr⟩
theorem noGoto_normal (h : Q .normal a w) : Exit.noGoto Q .normal a w := h
end

/-- The mark that a range over a function leaves. -/
def mkD (D : Nat) : Deferred := { target := .collected D, args := #[] }
theorem leaves_marks {F : Fence} {n : Nat} {P : Program} {fn : Func} {tmps : Array Value} {R : Ending → World → Prop} (w : World) : ∀ (Ds : List Nat) (W : World), Below w.heap.size w W →
    (∀ D ∈ Ds, w.heap.size ≤ D ∧ W.heap[D]? = some (.deferred (some []))) → Ds.Nodup → (∀ W', Below w.heap.size w W' → LeavesInM F n P fn tmps R [] .returning W') → LeavesInM F n P fn tmps R (Ds.map mkD) .returning W
  | [], W, hb, _, _, h => h W hb
  | D :: Ds, W, hb, hm, hn, h => by
    obtain ⟨h1, h2⟩ := hm D (by simp)
    rw [List.nodup_cons] at hn
    refine ⟨by simp, .inl ⟨D, _, rfl, run_takeDeferred h2, ?_⟩⟩
    refine leaves_marks w Ds _ (hb.trans (belowK_b (w := w) (Nat.le_refl _) W D _ _ h1 h2 rfl rfl)) (fun E hE => ?_) hn.2 h
    have hne : E ≠ D := fun e => hn.1 (e ▸ hE)
    exact ⟨(hm E (by simp [hE])).1, (World.putObj_heap_other hne).trans (hm E (by simp [hE])).2⟩

/-- The box's two corners, the marks, the boxes of the two variables. -/
structure InsB (w : World) (bl bm : Nat) (lx ly hx hy : Int) (Ds : List Nat) (W : World) : Prop where
  lo : W.heap[bl]? = some (vecO lx ly)
  hi : W.heap[bm]? = some (vecO hx hy)
  bel : Below w.heap.size w W
  mks : ∀ D ∈ Ds, w.heap.size ≤ D ∧ W.heap[D]? = some (.deferred (some []))
  nd : Ds.Nodup
theorem InsB.same {w W W' : World} {bl bm : Nat} {lx ly hx hy : Int} {Ds : List Nat} (h : InsB w bl bm lx ly hx hy Ds W) (hb : Below W.heap.size W W') : InsB w bl bm lx ly hx hy Ds W' :=
  have key : ∀ {k : Nat} {o : Obj}, W.heap[k]? = some o → W'.heap[k]? = some o := fun hk => (hb.block _ (Array.getElem?_eq_some_iff.1 hk).1).trans hk
  ⟨key h.lo, key h.hi, below_then h.bel hb, fun D hD => ⟨(h.mks D hD).1, key (h.mks D hD).2⟩, h.nd⟩
theorem InsB.fresh {w W : World} {bl bm : Nat} {lx ly hx hy : Int} {Ds : List Nat} (h : InsB w bl bm lx ly hx hy Ds W) {D : Nat} (hD : W.heap.size ≤ D) : D ∉ Ds := fun hm => by
  have := (Array.getElem?_eq_some_iff.1 (h.mks D hm).2).1
  omega
theorem InsB.cons {w W : World} {bl bm : Nat} {lx ly hx hy : Int} {Ds : List Nat} (h : InsB w bl bm lx ly hx hy Ds W) {D : Nat} (hD : w.heap.size ≤ D) (hn : D ∉ Ds) (hK : W.heap[D]? = some (.deferred (some []))) : InsB w bl bm lx ly hx hy (D :: Ds) W :=
  ⟨h.lo, h.hi, h.bel, fun E hE => by
    rcases List.mem_cons.1 hE with rfl | hE
    · exact ⟨hD, hK⟩
    · exact h.mks E hE, List.nodup_cons.2 ⟨hn, h.nd⟩⟩

/-- To the left of the step at a corner. -/
def lfR (ps : List Pt) (x y : Int) (i : Nat) : Bool := decide (0 < crs (stp ps i) (subP (x, y) (atP ps i)))
def insR (ps : List Pt) (x y : Int) : Bool := (List.range ps.length).all (lfR ps x y)

set_option maxRecDepth 100000 in
set_option maxHeartbeats 8000000 in
theorem askInside_any (gs : List Nat) (ps : List Pt) (w : World) (lx ly hx hy : Int) (hR : Ring w gs ps) (hn8 : ps.length < 1000000) (h00 : atP ps 0 = (0, 0)) (hb : ∀ i, i < ps.length → (-400 ≤ (atP ps i).1 ∧ (atP ps i).1 ≤ 400) ∧ (-400 ≤ (atP ps i).2 ∧ (atP ps i).2 ≤ 400))
    (e1 : loN (fun i => (atP ps i).1) ps.length = lx) (e2 : loN (fun i => (atP ps i).2) ps.length = ly) (e3 : hiN (fun i => (atP ps i).1) ps.length = hx) (e4 : hiN (fun i => (atP ps i).2) ps.length = hy)
    (hlx : -72 ≤ lx ∧ lx ≤ 0) (hly : -72 ≤ ly ∧ ly ≤ 0) (hhx : 0 ≤ hx ∧ hx ≤ 72) (hhy : 0 ≤ hy ∧ hy ≤ 72) :
    Calls Try.prog 122 #[ptrV (gs.getD 0 0)] w fun e w' => e = .returned (.int .i64 (gridN (insR ps) lx ly (hy + 1 - ly).toNat (hx + 1 - lx).toNat : Nat)) ∧ Below w.heap.size w w' := by
  have hB := box_any gs ps w hR hn8 h00
  rw [e1, e2, e3, e4] at hB
  have HR := Lib.hid hR
  have HN := Lib.hid hn8
  have HBD := Lib.hid hb
  obtain ⟨g0, eg⟩ : ∃ g0, g0 = gs.getD 0 0 := ⟨_, rfl⟩
  rw [← eg] at hB ⊢
  have EG := Lib.hid eg
  have hps := hR.pos
  clear hR hn8 h00 hb e1 e2 e3 e4 eg
  obtain ⟨M, eM⟩ : ∃ M, (hy + 1 - ly).toNat = M := ⟨_, rfl⟩
  obtain ⟨N, eN⟩ : ∃ N, (hx + 1 - lx).toNat = N := ⟨_, rfl⟩
  have HG := Lib.hid (gridN_le (insR ps) lx ly M)
  have HGs := Lib.hid (show ∀ i, gridN (insR ps) lx ly M (i + 1) = gridN (insR ps) lx ly M i + numN (fun j => insR ps (lx + i) (ly + j)) M from fun i => rfl)
  rw [eM, eN]
  have hM : ly + M = hy + 1 := by omega
  have hN : lx + N = hx + 1 := by omega
  have HMN := Lib.hid (show M ≤ 145 ∧ N ≤ 145 from by omega)
  clear eM eN
  refine (callsIn_wide (n := 5)).1 ?_
  refine callsIn_of_wp_marks Try.func122 rfl trivial ?_ rfl
  simp only [Try.ntmps122, List.size_toArray, List.length_cons, List.length_nil, Nat.reduceAdd, Nat.reduceSub, Array.replicate_succ, Array.replicate_zero, List.push_toArray, List.append_toArray, List.nil_append, List.cons_append]
  gi_wp2_with fail
  refine ⟨trivial, (callsIn_wide.2 hB).mono ?_⟩
  rintro e w1 ⟨rfl, b1⟩
  have HB1 := Lib.hid b1
  obtain ⟨q1, q2, _, _⟩ := pr_cells (al_old (o' := vecO hx hy) (World.alloc_heap_new w1 (vecO lx ly)))
  clear b1 hB
  gi_wp2_with fail
  have F0 : InsB w w1.heap.size (w1.heap.size + 1) lx ly hx hy [] (((w1.alloc (vecO lx ly)).alloc (vecO hx hy)).alloc (.cells #[.int .i64 lx] 3)) ∧ Boxed (((w1.alloc (vecO lx ly)).alloc (vecO hx hy)).alloc (.cells #[.int .i64 lx] 3)) (w1.heap.size + 1 + 1) 3 (.int .i64 lx) := by
    refine ⟨⟨al_old (al_old (World.alloc_heap_new w1 _)), al_old (al_new2 w1 _ _), below_alloc (below_alloc (below_alloc HB1.out _) _) _, fun D hD => by simp at hD, List.nodup_nil⟩, ?_⟩
    have := Boxed.new ((w1.alloc (vecO lx ly)).alloc (vecO hx hy)) 3 (.int .i64 lx)
    rwa [World.size_alloc, World.size_alloc] at this
  have hs1 := HB1.out.size
  change Code.wpIn _ _ _ _ _ _ (((w1.alloc (vecO lx ly)).alloc (vecO hx hy)).alloc (.cells #[.int .i64 lx] 3))
  generalize ((w1.alloc (vecO lx ly)).alloc (vecO hx hy)).alloc (.cells #[.int .i64 lx] 3) = W0 at *
  obtain ⟨bl, ebl⟩ : ∃ bl, bl = w1.heap.size := ⟨_, rfl⟩
  obtain ⟨bm, ebm⟩ : ∃ bm, bm = w1.heap.size + 1 := ⟨_, rfl⟩
  obtain ⟨xb, exb⟩ : ∃ xb, xb = w1.heap.size + 1 + 1 := ⟨_, rfl⟩
  rw [← exb, ← ebm, ← ebl] at F0
  rw [← exb, ← ebm, ← ebl]
  obtain ⟨F0, F1⟩ := F0
  have hxb : w.heap.size ≤ xb := by omega
  clear ebl ebm exb q1 q2 HB1 hs1
  refine wpIn_loop_ghost_k (fun k a W => ∃ (i : Nat) (cn : Int) (xb : Nat) (Ds : List Nat) (u7 u8 u9 u10 u11 u12 u13 u14 u15 u16 u17 u18 u19 u20 u21 u22 u23 u24 u25 u26 u27 u28 u29 u30 u31 u32 u33 u34 u35 u36 u37 u38 u39 u40 u41 u42 u43 u44 u45 u46 u47 u48 u49 : Value), k + i = N ∧ cn = (gridN (insR ps) lx ly M i : Nat) ∧ a = { tmps := #[ptrV g0, undef, .int .i64 0, ptrV bl, ptrV bm, .int .i64 cn, ptrV xb, u7, u8, u9, u10, u11, u12, u13, u14, u15, u16, u17, u18, u19, u20, u21, u22, u23, u24, u25, u26, u27, u28, u29, u30, u31, u32, u33, u34, u35, u36, u37, u38, u39, u40, u41, u42, u43, u44, u45, u46, u47, u48, u49], defers := Ds.map mkD } ∧ InsB w bl bm lx ly hx hy Ds W ∧ Boxed W xb 3 (.int .i64 (lx + i)) ∧ w.heap.size ≤ xb) N ⟨0, 0, xb, [], _, _, _, _, _, _, _, _, _, _, _, _, _, _, _, _, _, _, _, _, _, _, _, _, _, _, _, _, _, _, _, _, _, _, _, _, _, _, _, _, _, _, _, by omega, rfl, rfl, F0, by simpa using F1, hxb⟩ ?_
  clear F0 F1 hxb
  rintro k a W ⟨i, cn, xb, Ds, u7, u8, u9, u10, u11, u12, u13, u14, u15, u16, u17, u18, u19, u20, u21, u22, u23, u24, u25, u26, u27, u28, u29, u30, u31, u32, u33, u34, u35, u36, u37, u38, u39, u40, u41, u42, u43, u44, u45, u46, u47, u48, u49, hk, ecn, rfl, IB, BX, hxb⟩ J K2 hJ hK
  have HJ := Lib.hid hJ
  have HK := Lib.hid hK
  have HI := Lib.hid IB
  have HX := Lib.hid BX
  clear hJ hK
  obtain ⟨x, ex⟩ : ∃ x : Int, x = lx + i := ⟨_, rfl⟩
  have hgn := HG.out i
  have c0 := BX.cell
  obtain ⟨c1, c2, _, _⟩ := pr_cells IB.lo
  obtain ⟨c3, c4, _, _⟩ := pr_cells IB.hi
  rw [← ex] at c0
  have EX := Lib.hid ex
  clear IB BX
  by_cases hi : i < N
  · have d0 : decide (x ≤ hx) = true := by simp; omega
    have hi2 := HMN.out
    have hx9 : -72 ≤ x ∧ x ≤ 72 := by omega
    have hGM : gridN (insR ps) lx ly M i ≤ 30000 := by
      have : i * M ≤ 145 * 145 := Nat.mul_le_mul (by omega) (by omega)
      omega
    have HGS := Lib.hid (show ∀ v, gridN (insR ps) lx ly M i = v → gridN (insR ps) lx ly M (i + 1) = v + numN (fun j => insR ps x (ly + j)) M from fun v e => by rw [HGs.out, e, EX.out])
    obtain ⟨G, eG⟩ : ∃ G, gridN (insR ps) lx ly M i = G := ⟨_, rfl⟩
    have EG2 := Lib.hid (HGS.out G eG)
    rw [eG] at hGM
    rw [eG] at ecn
    have ECN := Lib.hid ecn
    have HI9 := Lib.hid (And.intro hk (And.intro hi (And.intro hxb hx9)))
    have HGM := Lib.hid hGM
    clear eG hgn HGS hi2 hk hi hxb ex ecn
    gi_wp2_with fail
    refine wpIn_scope_straight ?_
    gi_wp2_with fail
    refine wpIn_label ?_
    gi_wp2_with fail
    have IB2 := HI.out.same ((Below.refl W.heap.size W).alloc (Nat.le_refl _) (.cells #[.int .i64 ly] 3))
    have BX2 := HX.out.alloc (.cells #[.int .i64 ly] 3)
    rw [← EX.out] at BX2
    have BY2 := Boxed.new W 3 (.int .i64 ly)
    have hyb : w.heap.size ≤ W.heap.size := HI.out.bel.size
    clear HX HI c0 c1 c2 c3 c4 d0
    generalize W.alloc (.cells #[.int .i64 ly] 3) = W2 at *
    obtain ⟨yb, eyb⟩ : ∃ yb, yb = W.heap.size := ⟨_, rfl⟩
    rw [← eyb] at BY2 hyb
    rw [← eyb]
    clear eyb
    refine wpIn_loop_ghost_k (fun k a W => ∃ (j : Nat) (cn : Int) (yb : Nat) (Ds : List Nat) (u8 u9 u10 u11 u12 u13 u14 u15 u16 u17 u18 u19 u20 u21 u22 u23 u24 u25 u26 u27 u28 u29 u30 u31 u32 u33 u34 u35 u36 u37 u38 u39 u40 u41 u42 u43 u44 u45 u46 u47 u48 u49 : Value), k + j = M ∧ cn = (G + numN (fun j => insR ps x (ly + j)) j : Nat) ∧ a = { tmps := #[ptrV g0, undef, .int .i64 0, ptrV bl, ptrV bm, .int .i64 cn, ptrV xb, ptrV yb, u8, u9, u10, u11, u12, u13, u14, u15, u16, u17, u18, u19, u20, u21, u22, u23, u24, u25, u26, u27, u28, u29, u30, u31, u32, u33, u34, u35, u36, u37, u38, u39, u40, u41, u42, u43, u44, u45, u46, u47, u48, u49], defers := Ds.map mkD } ∧ InsB w bl bm lx ly hx hy Ds W ∧ Boxed W xb 3 (.int .i64 x) ∧ Boxed W yb 3 (.int .i64 (ly + j)) ∧ w.heap.size ≤ yb) M ⟨0, cn, yb, Ds, _, _, _, _, _, _, _, _, _, _, _, _, _, _, _, _, _, _, _, _, _, _, _, _, _, _, _, _, _, _, _, _, _, _, _, _, _, _, _, _, _, _, by omega, ECN.out, rfl, IB2, BX2, by simpa using BY2, hyb⟩ ?_
    clear IB2 BX2 BY2 hyb
    rintro k2 a W2 ⟨j, cn, yb, Ds, u8, u9, u10, u11, u12, u13, u14, u15, u16, u17, u18, u19, u20, u21, u22, u23, u24, u25, u26, u27, u28, u29, u30, u31, u32, u33, u34, u35, u36, u37, u38, u39, u40, u41, u42, u43, u44, u45, u46, u47, u48, u49, hk, ecn, rfl, IB, BX, BY, hyb⟩ J2 K3 hJ hK
    have HJ2 := Lib.hid hJ
    have HK2 := Lib.hid hK
    have HI2 := Lib.hid IB
    have HX2 := Lib.hid BX
    have HY2 := Lib.hid BY
    have HCN := Lib.hid ecn
    have hnl := numN_le (fun j => insR ps x (ly + j)) j
    have hcn : 0 ≤ cn ∧ cn ≤ 40000 := by have h1 := HGM.out; have h2 := HMN.out; omega
    clear hJ hK ecn hnl
    obtain ⟨y, ey⟩ : ∃ y : Int, y = ly + j := ⟨_, rfl⟩
    have c0 := BX.cell
    have c5 := BY.cell
    obtain ⟨c3, c4, _, _⟩ := pr_cells IB.hi
    rw [← ey] at c5
    have EY := Lib.hid ey
    clear IB BX BY
    by_cases hj : j < M
    · have d1 : decide (y ≤ hy) = true := by simp; omega
      have hy9 : -72 ≤ y ∧ y ≤ 72 := by omega
      have v1 : IntKind.i64.wrap (y + 1) = y + 1 := wrap_is rfl (by omega) (by omega)
      have v2 : IntKind.i64.wrap (cn + 1) = cn + 1 := wrap_is rfl (by omega) (by omega)
      have HJ9 := Lib.hid (And.intro hk (And.intro hj (And.intro hyb (And.intro hy9 hcn))))
      clear ey hk hj hyb hy9 hcn
      gi_wp2_with fail
      refine ⟨trivial, (around_in Fence.wide _ trivial rfl _ _).mono ?_⟩
      rintro e w3 ⟨rfl, rfl⟩
      gi_wp2_with fail
      have b3 : Below W2.heap.size W2 (W2.alloc (.cells #[ptrV g0] 47)) := (Below.refl W2.heap.size W2).alloc (Nat.le_refl _) _
      have IB3 := HI2.out.same b3
      have BX3 := HX2.out.alloc (.cells #[ptrV g0] 47)
      have BY3 := HY2.out.alloc (.cells #[ptrV g0] 47)
      rw [← EY.out] at BY3
      have BC3 := Boxed.new W2 47 (ptrV g0)
      have hs2 := HI2.out.bel.size
      have hcb : w.heap.size ≤ W2.heap.size := hs2
      clear b3 c0 c3 c4 c5 d1 HI2 HX2 HY2
      change Code.wpIn _ _ _ _ _ _ (W2.alloc (.cells #[ptrV g0] 47))
      have hs3 : (W2.alloc (.cells #[ptrV g0] 47)).heap.size = W2.heap.size + 1 := by simp
      generalize W2.alloc (.cells #[ptrV g0] 47) = W3 at *
      obtain ⟨cb, ecb⟩ : ∃ cb, cb = W2.heap.size := ⟨_, rfl⟩
      rw [← ecb] at BC3 hcb hs3
      rw [← ecb]
      have c1 : cb < W3.heap.size := by omega
      clear ecb hs2
      have HI3 := Lib.hid IB3
      have HX3 := Lib.hid BX3
      have HY3 := Lib.hid BY3
      refine wpIn_rangeFunc_ownH (F := Fence.wide) rfl (by omega) (gf := 173) (lb := #[ptrV cb]) rfl trivial (enters_of Try.func173 (by kernel_rfl) rfl)
        (around_stops _ cb w.heap.size gs ps HN.out W3 (HR.out.same IB3.bel) (fun i hi => HR.out.lt hi) IB3.bel.size c1 (by rw [← EG.out]; exact BC3.cell)) KpC.trans (KpC.put IB3.bel.size c1) (Below.refl _ _) (fun _ => rfl)
        (fun pre W => (∀ t ∈ pre, lfR ps x y t.1 = true) ∧ Below W3.heap.size W3 W)
        (fun c' pre W => (c' = .exit 3 ∧ ∃ t ∈ pre, lfR ps x y t.1 = false) ∧ Below W3.heap.size W3 W)
        (OwnFrom.and (ownFrom_pure _ _) (ownFrom_below (Nat.le_refl _) (Nat.le_refl _)))
        (fun _ => OwnFrom.and (ownFrom_pure _ _) (ownFrom_below (Nat.le_refl _) (Nat.le_refl _)))
        ⟨fun t ht => by simp at ht, Below.refl _ _⟩
        (fun t a' _ => ∃ (u9 u10 u11 u12 u13 u14 u15 u16 u17 u18 u19 u20 u21 u22 u23 u24 u25 u26 u27 u28 u29 u30 u31 u32 u33 u34 u35 u36 u37 u38 u39 u40 u41 u42 u43 u44 u45 u46 u47 u48 u49 : Value), a' = { tmps := #[ptrV g0, undef, .int .i64 0, ptrV bl, ptrV bm, .int .i64 cn, ptrV xb, ptrV yb, ptrV (gs.getD t.1 0), u9, u10, u11, u12, u13, u14, u15, u16, u17, u18, u19, u20, u21, u22, u23, u24, u25, u26, u27, u28, u29, u30, u31, u32, u33, u34, u35, u36, u37, u38, u39, u40, u41, u42, u43, u44, u45, u46, u47, u48, u49], defers := [] })
        (fun _ _ _ _ _ _ hs _ _ => hs)
        ?assign ?body ?done ?stop
      case assign =>
        rintro l pre t W K ⟨h1, h2⟩ hK
        simp only [encC]
        gi_wp2
        exact hK _ _ ((KeepsOthers.refl _).from _) (KpC.refl _ _ _) ⟨h1, h2⟩ ⟨_, _, _, _, _, _, _, _, _, _, _, _, _, _, _, _, _, _, _, _, _, _, _, _, _, _, _, _, _, _, _, _, _, _, _, _, _, _, _, _, _, rfl⟩
      case body =>
        rintro l pre t a' W hl ⟨r, hr⟩ ⟨ha, hB3⟩ ⟨u9, u10, u11, u12, u13, u14, u15, u16, u17, u18, u19, u20, u21, u22, u23, u24, u25, u26, u27, u28, u29, u30, u31, u32, u33, u34, u35, u36, u37, u38, u39, u40, u41, u42, u43, u44, u45, u46, u47, u48, u49, rfl⟩ hlt
        have hRW := HR.out.same (below_then HI3.out.bel hB3)
        have hm1 : (t.1 + 1) % ps.length < ps.length := Nat.mod_lt _ hps
        obtain ⟨k0, k1, k2⟩ := (hRW.cells t.1 t.2).cells
        have h1 := HBD.out t.1 t.2
        have h2 := HBD.out _ hm1
        have h9 := HJ9.out.2.2.2.1
        have h8 := HI9.out.2.2.2
        have hS := fun (W' : World) (hb' : Below W.heap.size W W') => step_any _ _ _ _ _ _ _ W' ((hRW.cells t.1 t.2).same hb') ((hRW.cells _ hm1).same hb') (by omega) (by omega)
        have hM := fun (W' : World) => minus_any x y (atP ps t.1).1 (atP ps t.1).2 W' (by omega) (by omega)
        have hlf : lfR ps x y t.1 = decide (0 < crs ((atP ps ((t.1 + 1) % ps.length)).1 - (atP ps t.1).1, (atP ps ((t.1 + 1) % ps.length)).2 - (atP ps t.1).2) (x - (atP ps t.1).1, y - (atP ps t.1).2)) := rfl
        have p1 : -800 ≤ (atP ps ((t.1 + 1) % ps.length)).1 - (atP ps t.1).1 ∧ (atP ps ((t.1 + 1) % ps.length)).1 - (atP ps t.1).1 ≤ 800 := by omega
        have p2 : -800 ≤ (atP ps ((t.1 + 1) % ps.length)).2 - (atP ps t.1).2 ∧ (atP ps ((t.1 + 1) % ps.length)).2 - (atP ps t.1).2 ≤ 800 := by omega
        have p3 : -800 ≤ x - (atP ps t.1).1 ∧ x - (atP ps t.1).1 ≤ 800 := by omega
        have p4 : -800 ≤ y - (atP ps t.1).2 ∧ y - (atP ps t.1).2 ≤ 800 := by omega
        have BXW := HX3.out.kept (grown_of_below hB3) (by simp)
        have BYW := HY3.out.kept (grown_of_below hB3) (by simp)
        have k3 := BXW.cell
        have k4 := BYW.cell
        clear h1 h2 h9 h8 hRW BXW BYW
        generalize (atP ps ((t.1 + 1) % ps.length)).1 - (atP ps t.1).1 = ax at *
        generalize (atP ps ((t.1 + 1) % ps.length)).2 - (atP ps t.1).2 = ay at *
        generalize x - (atP ps t.1).1 = bx at *
        generalize y - (atP ps t.1).2 = by1 at *
        generalize (atP ps t.1).1 = px at *
        generalize (atP ps t.1).2 = py at *
        have hprod : ∀ a b : Int, (a = ax ∨ a = ay) → (b = bx ∨ b = by1) → -1000000 ≤ a * b ∧ a * b ≤ 1000000 := fun a b ha hb' => by
          have := mul_sq (a := a) (b := b) (A := 800) (B := 800) (by rcases ha with rfl | rfl <;> omega) (by rcases ha with rfl | rfl <;> omega) (by rcases hb' with rfl | rfl <;> omega) (by rcases hb' with rfl | rfl <;> omega)
          omega
        have hC := fun W' => cross_any ax ay bx by1 W' hprod
        have HLF := Lib.hid hlf
        have HA := Lib.hid ha
        clear hprod p1 p2 p3 p4 hlf ha
        generalize crs (ax, ay) (bx, by1) = cr at *
        generalize gs.getD ((t.1 + 1) % ps.length) 0 = g2 at *
        generalize gs.getD t.1 0 = g1 at *
        have cS : ∀ r d os, CallsIn (Fence.wide.inRound l) r Try.prog 102 #[ptrV g1] (grow (redrawn W d) os) fun e w'' => e = .returned (vecX ax ay) ∧ ∃ p : Regrown, w'' = grow (redrawn W p.d) p.os :=
          fun r d os => CallsIn.regrown_of (CallsIn.inRound l (callsIn_wide.2 (hS _ (below_regrown W d os))))
        have cM : ∀ r d os, CallsIn (Fence.wide.inRound l) r Try.prog 158 #[vecX x y, vecX px py] (grow (redrawn W d) os) fun e w'' => e = .returned (vecX bx by1) ∧ ∃ p : Regrown, w'' = grow (redrawn W p.d) p.os :=
          fun r d os => CallsIn.regrown_of (CallsIn.inRound l (callsIn_wide.2 (hM _)))
        have cC : ∀ r d os, CallsIn (Fence.wide.inRound l) r Try.prog 147 #[vecX ax ay, vecX bx by1] (grow (redrawn W d) os) fun e w'' => e = .returned (.int .i64 cr) ∧ ∃ p : Regrown, w'' = grow (redrawn W p.d) p.os :=
          fun r d os => CallsIn.regrown_of (CallsIn.inRound l (callsIn_wide.2 (hC _)))
        have y0 := cell_regrown k0
        have y1 := cell_regrown k1
        have y3 := cell_regrown k3
        have y4 := cell_regrown k4
        have HB3 := Lib.hid hB3
        have hf1 : Fence.wide.fn 102 := trivial
        have hf2 : Fence.wide.fn 158 := trivial
        have hf3 : Fence.wide.fn 147 := trivial
        clear hS hM hC k0 k1 k2 k3 k4 hB3 IB3 BX3 BY3 BC3
        by_cases hcr : cr ≤ 0
        · have d9 : decide (cr ≤ 0) = true := by simpa using hcr
          have HF := Lib.hid (show lfR ps x y t.1 = false from by rw [HLF.out]; simpa using hcr)
          clear hcr
          gi_wp2_with fail
          refine region_quiet_round (by kernel_rfl) (by kernel_rfl) ?_
          repeat (quiet_step_in (first | exact cC _ _ _ | exact cM _ _ _ | exact cS _ _ _ | exact ⟨fun h => (by cases h), cC _ _ _⟩ | exact ⟨fun h => (by cases h), cM _ _ _⟩ | exact ⟨fun h => (by cases h), cS _ _ _⟩))
          refine wpQuietIn_nil ?_
          intro _ hw'
          obtain ⟨⟨dq, osq⟩, hw''⟩ := hw'
          subst hw''
          have bq := below_regrown W dq osq
          generalize grow (redrawn W dq) osq = wq at bq ⊢
          have HQ := Lib.hid bq
          clear bq y0 y1 y3 y4 cS cM cC
          gi_wp2
          exact ⟨(keeps_b HQ.out).from _, ⟨rfl, t, by simp, HF.out⟩, below_then HB3.out HQ.out⟩
        · have d9 : decide (cr ≤ 0) = false := by simpa using hcr
          have HF := Lib.hid (show lfR ps x y t.1 = true from by rw [HLF.out]; simp; omega)
          clear hcr
          gi_wp2_with fail
          refine region_quiet_round (by kernel_rfl) (by kernel_rfl) ?_
          repeat (quiet_step_in (first | exact cC _ _ _ | exact cM _ _ _ | exact cS _ _ _ | exact ⟨fun h => (by cases h), cC _ _ _⟩ | exact ⟨fun h => (by cases h), cM _ _ _⟩ | exact ⟨fun h => (by cases h), cS _ _ _⟩))
          refine wpQuietIn_nil ?_
          intro _ hw'
          obtain ⟨⟨dq, osq⟩, hw''⟩ := hw'
          subst hw''
          have bq := below_regrown W dq osq
          generalize grow (redrawn W dq) osq = wq at bq ⊢
          have HQ := Lib.hid bq
          clear bq y0 y1 y3 y4 cS cM cC
          gi_wp2
          have hz := HB3.out.size
          have hz0 := HI3.out.bel.size
          refine ⟨(keeps_b HQ.out).from _, KpC.below HQ.out (by omega) (by omega), fun u hu => ?_, below_then HB3.out HQ.out⟩
          rcases List.mem_append.1 hu with hu | hu
          · exact HA.out u hu
          · obtain rfl : u = t := by simpa using hu
            exact HF.out
      case done =>
        rintro D ys W hD rfl ⟨ha, hB3⟩ hK
        have IBW := (HI3.out.same hB3).cons (D := D) (by have := HI3.out.bel.size; omega) (HI3.out.fresh hD) hK
        have BXW := HX3.out.kept (grown_of_below hB3) (by simp)
        have BYW := HY3.out.kept (grown_of_below hB3) (by simp)
        have HF := Lib.hid (show insR ps x (ly + j) = true from by
          rw [← EY.out]
          unfold insR
          rw [List.all_eq_true]
          intro i hi
          rw [List.mem_range] at hi
          exact ha ⟨i, hi⟩ (firsts_all hps ⟨i, hi⟩))
        have HE := Lib.hid (show cn + 1 = (G + numN (fun j => insR ps x (ly + j)) (j + 1) : Nat) from by rw [numN, if_pos HF.out, HCN.out]; omega)
        clear ha
        have c7 := BYW.cell
        have IBN := IBW.same ((Below.refl W.heap.size W).alloc (Nat.le_refl _) (.cells #[.int .i64 (y + 1)] 3))
        have BXN := BXW.alloc (.cells #[.int .i64 (y + 1)] 3)
        have BYN := Boxed.new W 3 (.int .i64 (y + 1))
        have HZN := Lib.hid (Nat.le_trans HI3.out.bel.size hB3.size)
        have HNN := Lib.hid (And.intro IBN (And.intro BXN BYN))
        clear IBN BXN BYN IBW BXW BYW IB3 BX3 BY3 BC3 hK hB3
        gi_wp2
        refine HK2.out _ _ (Handed.intro (M - (j + 1)) (by have := HJ9.out; omega) (HJ2.out _ _ _ ⟨j + 1, cn + 1, W.heap.size, D :: Ds, _, _, _, _, _, _, _, _, _, _, _, _, _, _, _, _, _, _, _, _, _, _, _, _, _, _, _, _, _, _, _, _, _, _, _, _, _, _, _, _, _, _, by have := HJ9.out; omega, HE.out, rfl, HNN.out.1, HNN.out.2.1, ?_, HZN.out⟩))
        rw [show ly + ((j + 1 : Nat) : Int) = y + 1 from by have := EY.out; omega]
        exact HNN.out.2.2
      case stop =>
        rintro D c' pre W hD _ ⟨⟨rfl, t, htm, ht⟩, hB3⟩ hK
        have IBW := (HI3.out.same hB3).cons (D := D) (by have := HI3.out.bel.size; omega) (HI3.out.fresh hD) hK
        have BXW := HX3.out.kept (grown_of_below hB3) (by simp)
        have BYW := HY3.out.kept (grown_of_below hB3) (by simp)
        have HF := Lib.hid (show insR ps x (ly + j) = false from by
          rw [← EY.out]
          cases e : insR ps x y with
          | false => rfl
          | true =>
            unfold insR at e
            rw [List.all_eq_true] at e
            have := e t.1 (List.mem_range.2 t.2)
            rw [ht] at this
            cases this)
        have HE := Lib.hid (show cn = (G + numN (fun j => insR ps x (ly + j)) (j + 1) : Nat) from by rw [numN, HF.out, HCN.out]; simp)
        clear htm ht
        have c7 := BYW.cell
        have IBN := IBW.same ((Below.refl W.heap.size W).alloc (Nat.le_refl _) (.cells #[.int .i64 (y + 1)] 3))
        have BXN := BXW.alloc (.cells #[.int .i64 (y + 1)] 3)
        have BYN := Boxed.new W 3 (.int .i64 (y + 1))
        have HZN := Lib.hid (Nat.le_trans HI3.out.bel.size hB3.size)
        have HNN := Lib.hid (And.intro IBN (And.intro BXN BYN))
        clear IBN BXN BYN IBW BXW BYW IB3 BX3 BY3 BC3 hK hB3
        gi_wp2
        refine HK2.out _ _ (Handed.intro (M - (j + 1)) (by have := HJ9.out; omega) (HJ2.out _ _ _ ⟨j + 1, cn, W.heap.size, D :: Ds, _, _, _, _, _, _, _, _, _, _, _, _, _, _, _, _, _, _, _, _, _, _, _, _, _, _, _, _, _, _, _, _, _, _, _, _, _, _, _, _, _, _, by have := HJ9.out; omega, HE.out, rfl, HNN.out.1, HNN.out.2.1, ?_, HZN.out⟩))
        rw [show ly + ((j + 1 : Nat) : Int) = y + 1 from by have := EY.out; omega]
        exact HNN.out.2.2
    · have ej : j = M := by omega
      have d1 : decide (y ≤ hy) = false := by simp; omega
      have h8 := HI9.out.2.2.2
      have v1 : IntKind.i64.wrap (x + 1) = x + 1 := wrap_is rfl (by omega) (by omega)
      have HE := Lib.hid (show cn = (gridN (insR ps) lx ly M (i + 1) : Nat) from by rw [HCN.out, EG2.out, ej])
      have IBN := HI2.out.same ((Below.refl W2.heap.size W2).alloc (Nat.le_refl _) (.cells #[.int .i64 (x + 1)] 3))
      have BXN := Boxed.new W2 3 (.int .i64 (x + 1))
      have HNN := Lib.hid (And.intro IBN (And.intro BXN HI2.out.bel.size))
      clear IBN BXN h8 ej ey hk hj hyb hcn HI2 HX2 HY2 HJ2 HK2
      gi_wp2
      refine noGoto_normal ?_
      gi_wp2
      refine HK.out _ _ (Handed.intro (N - (i + 1)) (by have := HI9.out; omega) (HJ.out _ _ _ ⟨i + 1, cn, W2.heap.size, Ds, _, _, _, _, _, _, _, _, _, _, _, _, _, _, _, _, _, _, _, _, _, _, _, _, _, _, _, _, _, _, _, _, _, _, _, _, _, _, _, _, _, _, _, by have := HI9.out; omega, HE.out, rfl, HNN.out.1, ?_, HNN.out.2.2⟩))
      rw [show lx + ((i + 1 : Nat) : Int) = x + 1 from by have := EX.out; omega]
      exact HNN.out.2.1
  · have ei : i = N := by omega
    have d0 : decide (x ≤ hx) = false := by simp; omega
    have HE := Lib.hid (show cn = (gridN (insR ps) lx ly M N : Nat) from by rw [ecn, ei])
    clear ei ecn hi hgn hk ex
    gi_wp2
    refine leaves_marks w Ds W HI.out.bel HI.out.mks HI.out.nd (fun W' hb => ?_)
    refine ⟨_, results_tmp rfl _ _ _, ?_⟩
    exact ⟨congrArg (fun v : Int => Ending.returned (.int .i64 v)) HE.out, hb⟩
end Go.Proofs.Ythpgenkdiokpeaa
