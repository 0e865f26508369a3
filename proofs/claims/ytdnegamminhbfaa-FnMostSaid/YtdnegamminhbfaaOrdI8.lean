/- The program's way through all orders. -/
import Derived.Test.YtdnegamminhbfaaOrdI4
import Derived.Test.YtdnegamminhbfaaOrdI6
import Derived.Test.YtdnegamminhbfaaOrdP
namespace Go.Proofs.Ytdnegamminhbfaa
open Go.RowKit Go.Sort Go.Lib

set_option maxRecDepth 100000 in
set_option maxHeartbeats 4000000 in
theorem indexV_any (A : Option Addr) (n c : Nat) (l : List Pt) (x y : Int) (w : World) (h : RdV w A n l) (hn : n ≤ 1000) :
    Calls Try.prog 144 #[.slice A n c, vecX x y] w fun e w' => (∃ r : Int, e = .returned (.int .i64 r) ∧ decide (0 ≤ r) = decide ((x, y) ∈ l)) ∧ Below w.heap.size w w' := by
  have HL := Lib.hid h.1
  have HR := Lib.hid h
  have HV := Lib.hid (World.alloc_heap_new w (vecO x y))
  clear h
  go_enter Try.func144, Try.ntmps144
  go_wp2_with fail
  go_loopw [5, 8] (fun _ i wr => ∃ k : Nat, k ≤ n ∧ i = .int .i64 k ∧ (∀ j, j < k → atP l j ≠ (x, y)) ∧ Below w.heap.size w wr ∧ Below (w.alloc (vecO x y)).heap.size (w.alloc (vecO x y)) wr) (fun _ i _ => n - (intOf i).toNat)
  case atStart => exact ⟨0, Nat.zero_le _, rfl, fun j hj => absurd hj (by omega), below_alloc (Below.refl _ _) _, Below.refl _ _⟩
  case round =>
    obtain ⟨k, hk, rfl, hno, hb, hb2⟩ := hrel
    by_cases hlt : k < n
    · obtain ⟨b, off, rfl, hbl, hc⟩ := (HR.out.below (Nat.le_refl _) hb).2 (by omega)
      obtain ⟨c1, c2⟩ := hc k hlt
      have hV2 := (hb2.block _ (Array.getElem?_eq_some_iff.1 HV.out).1).trans HV.out
      obtain ⟨c3, c4, _, _⟩ := pr_cells hV2
      have y1 : ∀ d os, (grow (redrawn wr d) os).cell? ⟨b, off + k * 2, none⟩ = some (.int .i64 (atP l k).1) := fun d os => cell_regrown c1 d os
      have y2 : ∀ d os, (grow (redrawn wr d) os).cell? ⟨b, off + k * 2 + 1, none⟩ = some (.int .i64 (atP l k).2) := fun d os => cell_regrown c2 d os
      have y3 : ∀ d os, (grow (redrawn wr d) os).cell? ⟨w.heap.size, 0, none⟩ = some (.int .i64 x) := fun d os => cell_regrown c3 d os
      have y4 : ∀ d os, (grow (redrawn wr d) os).cell? ⟨w.heap.size, 1, none⟩ = some (.int .i64 y) := fun d os => cell_regrown c4 d os
      have HQ := Lib.hid (show atP l k = ((atP l k).1, (atP l k).2) from rfl)
      have HMm := Lib.hid (show atP l k ∈ l by rw [atP_lt (by rw [HL.out]; exact hlt)]; exact List.getElem_mem _)
      generalize hu : (atP l k).1 = u at *
      generalize hv : (atP l k).2 = v at *
      have HB := Lib.hid (And.intro hb hb2)
      have HNO := Lib.hid hno
      clear hc c1 c2 c3 c4 hV2 hb hb2 hu hv hno
      by_cases e1 : x = u
      · by_cases e2 : y = v
        · subst e1 e2
          go_wp2_with fail
          refine wp_region_quiet_below (by kernel_rfl) (by kernel_rfl) ?_
          repeat (go_big_quiet_step (fail))
          refine wpQuiet_nil ?_
          intro _ hw'
          obtain ⟨⟨dq, osq⟩, hw''⟩ := hw'
          subst hw''
          have bq := below_regrown wr dq osq
          generalize Go.Sort.grow (redrawn wr dq) osq = wq at bq ⊢
          go_wp2_with fail
          go_ret
          refine ⟨⟨(k : Int), rfl, ?_⟩, HB.out.1.trans (bq.mono HB.out.1.size)⟩
          have hm := HMm.out
          rw [HQ.out] at hm
          rw [decide_eq_true hm]
          simp
        · have HE := Lib.hid e2
          have e3 : ¬ v = y := fun h => e2 h.symm
          subst e1
          clear e2
          have e2 := HE.out
          go_wp2_with fail
          refine wp_region_quiet_below (by kernel_rfl) (by kernel_rfl) ?_
          repeat (go_big_quiet_step (fail))
          refine wpQuiet_nil ?_
          intro _ hw'
          obtain ⟨⟨dq, osq⟩, hw''⟩ := hw'
          subst hw''
          have bq := below_regrown wr dq osq
          generalize Go.Sort.grow (redrawn wr dq) osq = wq at bq ⊢
          go_wp2_with fail
          go_roundw
          case rel =>
            have hn2 : ∀ j, j < k + 1 → atP l j ≠ (x, y) := fun j hj => by
              by_cases e : j = k
              · rw [e, HQ.out]; intro h; injection h with h1 h2; exact HE.out h2.symm
              · exact HNO.out j (by omega)
            exact ⟨k + 1, by omega, by go_num, hn2, HB.out.1.trans (bq.mono HB.out.1.size), HB.out.2.trans (bq.mono HB.out.2.size)⟩
          case measure => simp [intOf]; omega
      · have HE := Lib.hid e1
        have e3 : ¬ u = x := fun h => e1 h.symm
        go_wp2_with fail
        refine wp_region_quiet_below (by kernel_rfl) (by kernel_rfl) ?_
        repeat (go_big_quiet_step (fail))
        refine wpQuiet_nil ?_
        intro _ hw'
        obtain ⟨⟨dq, osq⟩, hw''⟩ := hw'
        subst hw''
        have bq := below_regrown wr dq osq
        generalize Go.Sort.grow (redrawn wr dq) osq = wq at bq ⊢
        go_wp2_with fail
        go_roundw
        case rel =>
          have hn2 : ∀ j, j < k + 1 → atP l j ≠ (x, y) := fun j hj => by
            by_cases e : j = k
            · rw [e, HQ.out]; intro h; injection h with h1 h2; exact HE.out h1.symm
            · exact HNO.out j (by omega)
          exact ⟨k + 1, by omega, by go_num, hn2, HB.out.1.trans (bq.mono HB.out.1.size), HB.out.2.trans (bq.mono HB.out.2.size)⟩
        case measure => simp [intOf]; omega
    · obtain rfl : k = n := by omega
      have HNO := Lib.hid hno
      clear hno
      go_wp2_with fail
      go_ret
      refine ⟨⟨-1, rfl, ?_⟩, hb⟩
      have hm : (x, y) ∉ l := fun hm => by
        obtain ⟨j, hj, e⟩ := List.getElem_of_mem hm
        refine HNO.out j (by rw [← HL.out]; exact hj) ?_
        rw [atP_lt hj, e]
      rw [decide_eq_false hm]
      rfl

set_option maxRecDepth 100000 in
set_option maxHeartbeats 2000000 in
theorem containsV_any (A : Option Addr) (n c : Nat) (l : List Pt) (x y : Int) (w : World) (h : RdV w A n l) (hn : n ≤ 1000) :
    Calls Try.prog 121 #[.slice A n c, vecX x y] w fun e w' => e = .returned (.bool (decide ((x, y) ∈ l))) ∧ Below w.heap.size w w' := by
  have hV := World.alloc_heap_new w (vecO x y)
  obtain ⟨k0, k1, _, _⟩ := pr_cells hV
  have b1 := below_alloc (Below.refl w.heap.size w) (vecO x y)
  have HI := Lib.hid (indexV_any A n c l x y _ (h.same b1) hn)
  obtain ⟨bz, ebz⟩ : ∃ bz, bz = decide ((x, y) ∈ l) := ⟨_, rfl⟩
  rw [← ebz]
  rw [← ebz] at HI
  clear h hV ebz
  go_enter Try.func121, Try.ntmps121
  go_wp2_with fail
  refine HI.out.mono ?_
  rintro e w2 ⟨⟨r, rfl, hr⟩, b2⟩
  have HRR := Lib.hid hr
  clear hr
  go_wp2_with fail
  go_ret
  exact ⟨ret_b HRR.out, below_then b1 b2⟩

/-- What the search through all orders keeps. -/
structure FillI (w0 : World) (B b1 b2 b3 bx g n c : Nat) (fid : FuncId) (o : List Pt) (s : Int) (W : World) : Prop where
  c1 : W.heap[b1]? = some (.cells #[.slice (some ⟨g, 0, none⟩) n c] 60 (0, 0))
  c2 : W.heap[b2]? = some (.cells #[.func (.func fid) #[] #[ptrV bx]] 69 (0, 0))
  c3 : W.heap[b3]? = some (.cells #[.func (.func 120) #[] #[ptrV b1, ptrV b2, ptrV b3]] 102 (0, 0))
  own : OwnV W B (some ⟨g, 0, none⟩) n c o
  box : W.heap[bx]? = some (.cells #[.int .i64 s] 3 (0, 0))
  bel : Below B w0 W
  hg : B ≤ g
  ne : b1 ≠ g ∧ b2 ≠ g ∧ b3 ≠ g ∧ bx ≠ g
theorem FillI.below {w0 W W' : World} {B b1 b2 b3 bx g n c : Nat} {fid : FuncId} {o : List Pt} {s : Int} (h : FillI w0 B b1 b2 b3 bx g n c fid o s W) (hb : Below W.heap.size W W') : FillI w0 B b1 b2 b3 bx g n c fid o s W' := by
  have key : ∀ {k : Nat} {ob : Obj}, W.heap[k]? = some ob → W'.heap[k]? = some ob := fun hk => (hb.block _ (Array.getElem?_eq_some_iff.1 hk).1).trans hk
  have hB : B ≤ W.heap.size := Nat.le_trans h.hg (Nat.le_of_lt (h.own.row g rfl).2)
  exact ⟨key h.c1, key h.c2, key h.c3, h.own.same hb, key h.box, h.bel.trans (hb.mono hB), h.hg, h.ne⟩
theorem FillI.swap {w0 W : World} {B b1 b2 b3 bx g n c : Nat} {fid : FuncId} {o : List Pt} {s : Int} (h : FillI w0 B b1 b2 b3 bx g n c fid o s W) {i j : Nat} (hi : i < n) (hj : j < n) :
    FillI w0 B b1 b2 b3 bx g n c fid (swpP o i j) s (((((W.setCell ⟨g, i * 2, none⟩ (.int .i64 (atP o j).1)).setCell ⟨g, i * 2 + 1, none⟩ (.int .i64 (atP o j).2)).setCell ⟨g, j * 2, none⟩ (.int .i64 (atP o i).1)).setCell ⟨g, j * 2 + 1, none⟩ (.int .i64 (atP o i).2)).drew) := by
  have s1 := h.own.stored hi (atP o j)
  have s2 := s1.1.stored hj (atP o i)
  have g2 := s1.2.trans s2.2
  generalize (((W.setCell ⟨g, i * 2, none⟩ (.int .i64 (atP o j).1)).setCell ⟨g, i * 2 + 1, none⟩ (.int .i64 (atP o j).2)).setCell ⟨g, j * 2, none⟩ (.int .i64 (atP o i).1)).setCell ⟨g, j * 2 + 1, none⟩ (.int .i64 (atP o i).2) = W' at *
  have key : ∀ {k : Nat} {ob : Obj}, k ≠ g → W.heap[k]? = some ob → W'.heap[k]? = some ob := fun hne hk => (g2.block _ (Array.getElem?_eq_some_iff.1 hk).1 (by intro e; injection e; omega)).trans hk
  have hB : B ≤ W.heap.size := Nat.le_trans h.hg (Nat.le_of_lt (h.own.row g rfl).2)
  have : FillI w0 B b1 b2 b3 bx g n c fid (swpP o i j) s W' := ⟨key h.ne.1 h.c1, key h.ne.2.1 h.c2, key h.ne.2.2.1 h.c3, s2.1, key h.ne.2.2.2 h.box, h.bel.grown g2 hB (fun k e => by cases e; exact h.hg), h.hg, h.ne⟩
  exact this.below ((Below.refl _ _).drew)

set_option maxRecDepth 100000 in
set_option maxHeartbeats 8000000 in
theorem fill_any (w0 : World) (B b1 b2 b3 bx g n c : Nat) (fid : FuncId) (acc : Int → List Pt → Int) (l : List Pt) (hn : n ≤ 1000) (hl : l.length = n) (hcap : n ≤ c) (_ : c ≤ 9223372036854775807)
    (hv : ∀ o s W, o.Perm l → FillI w0 B b1 b2 b3 bx g n c fid o s W → Calls Try.prog fid #[.slice (some ⟨g, 0, none⟩) n c, ptrV bx] W fun e w' => e = .returned (.tuple #[]) ∧ FillI w0 B b1 b2 b3 bx g n c fid o (acc s o) w')
    (he : ∀ args w, (callFunc fid args).run Try.prog w = .ok (.enter fid args) w) :
    ∀ (m k : Nat) (o : List Pt) (s : Int) (W : World), n = k + m → o.Perm l → FillI w0 B b1 b2 b3 bx g n c fid o s W →
      Calls Try.prog 120 #[.int .i64 k, ptrV b1, ptrV b2, ptrV b3] W fun e w' => e = .returned (.tuple #[]) ∧ FillI w0 B b1 b2 b3 bx g n c fid o ((lvP m o k).foldl acc s) w' := by
  intro m
  induction m with
  | zero =>
    intro k o s W hm hp hI
    obtain rfl : n = k := by omega
    have HC := Lib.hid (hv o s W hp hI)
    obtain ⟨q1, _⟩ := box_cell hI.c1
    obtain ⟨q2, _⟩ := box_cell hI.c2
    clear hv hI hp hm
    go_enter Try.func120, Try.ntmps120
    go_wp2_with fail
    refine HC.out.mono ?_
    rintro e w2 ⟨rfl, h2⟩
    have H2 := Lib.hid h2
    clear h2
    go_wp2_with fail
    refine bodyPost_ret (results_none rfl _ _ _) rfl ?_
    exact ⟨rfl, H2.out⟩
  | succ m ih =>
    intro k o s W hm hp hI
    have IH := Lib.hid ih
    clear ih
    have HI := Lib.hid hI
    have hol := hp.length_eq
    have HOL := Lib.hid (hol.trans hl)
    have HP := Lib.hid hp
    obtain ⟨q1, _⟩ := box_cell hI.c1
    have HLV := Lib.hid (show lvP (m + 1) o k = lvStep (fun o' => lvP m o' (k + 1)) o k (m + 1) from rfl)
    have d0 : decide ((k : Int) = n) = false := by rw [decide_eq_false_iff_not]; omega
    have d0' : decide (k = n) = false := by rw [decide_eq_false_iff_not]; omega
    have d0'' : ((k : Int) == (n : Int)) = false := by simp; omega
    have HM := Lib.hid hm
    have hkn : k < n := by omega
    clear hv hI hp hm hol
    go_enter Try.func120, Try.ntmps120
    go_wp2_with fail
    go_loopw [5] (fun i wr => ∃ i' : Nat, k ≤ i' ∧ i' ≤ n ∧ i = .int .i64 i' ∧ FillI w0 B b1 b2 b3 bx g n c fid o ((lvStep (fun o' => lvP m o' (k + 1)) o k (i' - k)).foldl acc s) wr) (fun i _ => n - (intOf i).toNat)
    case atStart => exact ⟨k, Nat.le_refl _, by omega, rfl, by rw [Nat.sub_self]; exact HI.out⟩
    case round =>
      clear q1
      obtain ⟨i, hki, hin, rfl, hq⟩ := hrel
      have HQ := Lib.hid hq
      obtain ⟨q1, _⟩ := box_cell hq.c1
      by_cases hlt : i < n
      · obtain ⟨c1, c2⟩ := hq.own.cell i hlt
        obtain ⟨c3, c4⟩ := hq.own.cell k hkn
        have fr := fun j => hq.own.free j
        have hrd := (hq.own.rd.drop (k := k) (by omega)).take (k := i - k) (by omega)
        rw [Nat.zero_add] at hrd
        have hC := fun W (hW : Below wr.heap.size wr W) => containsV_any (some ⟨g, k * 2, none⟩) (i - k) (c - k) _ (atP o i).1 (atP o i).2 W (hrd.same hW) (by omega)
        have hsb : seenB o k (i - k) = decide (((atP o i).1, (atP o i).2) ∈ (o.drop k).take (i - k)) := by
          unfold seenB; rw [show k + (i - k) = i by omega]
        rw [← hsb] at hC
        have HST := Lib.hid (show lvStep (fun o' => lvP m o' (k + 1)) o k (i + 1 - k) = lvStep (fun o' => lvP m o' (k + 1)) o k (i - k) ++ (if seenB o k (i - k) then [] else lvP m (swpP o k i) (k + 1)) by
          rw [show i + 1 - k = (i - k) + 1 by omega, lvStep, show k + (i - k) = i by omega])
        have HSW := Lib.hid (hq.swap (i := k) (j := i) hkn hlt)
        have hpp := swpP_perm (l := o) (i := k) (j := i) (by rw [HOL.out]; exact hkn) (by rw [HOL.out]; exact hlt)
        have HIH := Lib.hid (fun s W hF => IH.out (k + 1) (swpP o k i) s W (by have := HM.out; omega) (hpp.trans HP.out) hF)
        have a1 : atP (swpP o k i) k = atP o i := by
          rw [swpP_at (by rw [HOL.out]; exact hkn) (by rw [HOL.out]; exact hlt)]
          by_cases e : k = i
          · rw [if_pos e, e]
          · rw [if_neg e, if_pos rfl]
        have a2 : atP (swpP o k i) i = atP o k := by
          rw [swpP_at (by rw [HOL.out]; exact hkn) (by rw [HOL.out]; exact hlt), if_pos rfl]
        have HAT := Lib.hid (And.intro a1 a2)
        have HBK := Lib.hid (swpP_back (l := o) (i := k) (j := i) (by rw [HOL.out]; exact hkn) (by rw [HOL.out]; exact hlt))
        generalize hu : (atP o i).1 = px at *
        generalize hu2 : (atP o i).2 = py at *
        generalize hu3 : (atP o k).1 = qx at *
        generalize hu4 : (atP o k).2 = qy at *
        have HU := Lib.hid (And.intro hu (And.intro hu2 (And.intro hu3 hu4)))
        generalize hbz : seenB o k (i - k) = bz at *
        have HCC := Lib.hid (And.intro q1 (And.intro c1 (And.intro c2 (And.intro c3 (And.intro c4 fr)))))
        have cE : ∀ d os, Calls Try.prog 121 #[.slice (some ⟨g, k * 2, none⟩) (i - k) (c - k), vecX px py] (grow (redrawn wr d) os) fun e w'' => e = .returned (.bool bz) ∧ ∃ p : Regrown, w'' = grow (redrawn wr p.d) p.os := fun d os => Calls.regrown_of (hC _ (below_regrown wr d os))
        have y1 : ∀ d os, (grow (redrawn wr d) os).cell? ⟨g, i * 2, none⟩ = some (.int .i64 px) := fun d os => cell_regrown c1 d os
        have y2 : ∀ d os, (grow (redrawn wr d) os).cell? ⟨g, i * 2 + 1, none⟩ = some (.int .i64 py) := fun d os => cell_regrown c2 d os
        have y3 : ∀ d os, (grow (redrawn wr d) os).cell? ⟨b1, 0, none⟩ = some (.slice (some ⟨g, 0, none⟩) n c) := fun d os => cell_regrown q1 d os
        have e1 : (0 : Int) ≤ (k : Int) := by omega
        have e2 : (k : Int) ≤ (i : Int) := by omega
        have e3 : (i : Int) ≤ (c : Int) := by omega
        have e4 : ((i : Int) - (k : Int)).toNat = i - k := by omega
        have e5 : ¬ (c = k) := by omega
        have e6 : ¬ (k = c) := by omega
        obtain ⟨k1, hk1⟩ : ∃ k1, k1 = k + 1 := ⟨_, rfl⟩
        rw [← hk1] at HIH HST
        have HK1 := Lib.hid hk1
        have v1 : IntKind.i64.wrap ((k : Int) + 1) = (k1 : Int) := wrap_is (by omega) (by omega) (by omega)
        have HSZ : g < wr.heap.size := (hq.own.row g rfl).2
        have HB1 : b1 < wr.heap.size := (Array.getElem?_eq_some_iff.1 hq.c1).1
        have nb1 : ¬ b1 = g := hq.ne.1
        have nb2 : ¬ g = b1 := fun e => hq.ne.1 e.symm
        have nb3 : ¬ b3 = g := hq.ne.2.2.1
        have nb4 : ¬ g = b3 := fun e => hq.ne.2.2.1 e.symm
        clear hq c1 c2 c3 c4 fr hrd hC hsb hpp a1 a2 hu hu2 hu3 hu4 hbz hk1
        cases bz with
        | true =>
          go_wp2_with fail
          refine wp_region_quiet_below (by kernel_rfl) (by kernel_rfl) ?_
          repeat (go_big_quiet_step (with_reducible exact cE _ _))
          refine wpQuiet_nil ?_
          intro _ hw'
          obtain ⟨⟨dq, osq⟩, hw''⟩ := hw'
          subst hw''
          have bq := below_regrown wr dq osq
          generalize Go.Sort.grow (redrawn wr dq) osq = wq at bq ⊢
          go_wp2_with fail
          go_roundw
          case rel =>
            have hf := HQ.out.below bq
            have hs2 := HST.out
            rw [if_pos (by first | rfl | trivial), List.append_nil] at hs2
            rw [HK1.out] at hs2
            rw [← hs2] at hf
            first
              | exact ⟨i + 1, by omega, by omega, by go_num, hf⟩
              | ((repeat apply Exists.intro); exact ⟨⟨i + 1, by omega, by omega, by go_num, hf⟩, rfl⟩)
          case measure => simp [intOf]; omega
        | false =>
          go_wp2_with fail
          refine wp_region_quiet_below (by kernel_rfl) (by kernel_rfl) ?_
          repeat (go_big_quiet_step (with_reducible exact cE _ _))
          refine wpQuiet_nil ?_
          intro _ hw'
          obtain ⟨⟨dq, osq⟩, hw''⟩ := hw'
          subst hw''
          have bq := below_regrown wr dq osq
          generalize Go.Sort.grow (redrawn wr dq) osq = wq at bq ⊢
          rcases Nat.eq_or_lt_of_le hki with hik | hik
          · obtain rfl : i = k := hik.symm
            obtain rfl : px = qx := HU.out.1.symm.trans HU.out.2.2.1
            obtain rfl : py = qy := HU.out.2.1.symm.trans HU.out.2.2.2
            have hgw := HSZ
            have z0 := (bq.cell (p := ⟨b1, 0, none⟩) HB1).trans HCC.out.1
            have z1 := (bq.cell (p := ⟨g, i * 2, none⟩) hgw).trans HCC.out.2.1
            have z2 := (bq.cell (p := ⟨g, i * 2 + 1, none⟩) hgw).trans HCC.out.2.2.1
            have z3 := (bq.cell (p := ⟨g, i * 2, none⟩) hgw).trans HCC.out.2.2.2.1
            have z4 := (bq.cell (p := ⟨g, i * 2 + 1, none⟩) hgw).trans HCC.out.2.2.2.2.1
            have hqq := HQ.out.below bq
            have z5 := (box_cell hqq.c3).1
            have HQ1 := Lib.hid hqq
            have f1 := hqq.own.free (i * 2)
            have f2 := hqq.own.free (i * 2 + 1)
            have f3 := hqq.own.free (i * 2)
            have f4 := hqq.own.free (i * 2 + 1)
            have HSW := Lib.hid (show FillI w0 B b1 b2 b3 bx g n c fid (swpP o i i) ((lvStep (fun o' => lvP m o' (i + 1)) o i (i - i)).foldl acc s) (((((wq.setCell ⟨g, i * 2, none⟩ (.int .i64 px)).setCell ⟨g, i * 2 + 1, none⟩ (.int .i64 py)).setCell ⟨g, i * 2, none⟩ (.int .i64 px)).setCell ⟨g, i * 2 + 1, none⟩ (.int .i64 py)).drew) by
              have := hqq.swap (i := i) (j := i) hlt hlt
              simp only [HU.out.1, HU.out.2.1] at this
              exact this)
            clear y1 y2 y3 cE hqq q1
            go_wp2_with fail
            go_region
            all_goals
              as_aux_lemma =>
                have hs := HSW.out
                have HC2 := Lib.hid (HIH.out _ _ hs)
                clear hs z1 z2 z3 z4 f1 f2 f3 f4
                go_wp2_with fail
                refine HC2.out.mono ?_
                rintro e w3 ⟨rfl, h3⟩
                have HQ3 := Lib.hid h3
                have r4 := (box_cell h3.c1).1
                obtain ⟨c1, c2⟩ := h3.own.cell i hlt
                obtain ⟨c3, c4⟩ := h3.own.cell i hkn
                have f1 := h3.own.free (i * 2)
                have f2 := h3.own.free (i * 2 + 1)
                have f3 := h3.own.free (i * 2)
                have f4 := h3.own.free (i * 2 + 1)
                rw [HAT.out.2, HU.out.2.2.1] at c1
                rw [HAT.out.2, HU.out.2.2.2] at c2
                rw [HAT.out.1, HU.out.1] at c3
                rw [HAT.out.1, HU.out.2.1] at c4
                have HSB := Lib.hid (show FillI w0 B b1 b2 b3 bx g n c fid o ((lvP m (swpP o i i) (i + 1)).foldl acc ((lvStep (fun o' => lvP m o' (i + 1)) o i (i - i)).foldl acc s)) (((((w3.setCell ⟨g, i * 2, none⟩ (.int .i64 px)).setCell ⟨g, i * 2 + 1, none⟩ (.int .i64 py)).setCell ⟨g, i * 2, none⟩ (.int .i64 px)).setCell ⟨g, i * 2 + 1, none⟩ (.int .i64 py)).drew) by
                  have := h3.swap (i := i) (j := i) hlt hlt
                  rw [HBK.out] at this; simp only [HAT.out.1, HU.out.1, HU.out.2.1] at this; rw [HK1.out] at this
                  exact this)
                clear h3 z0 z5
                go_wp2_with fail
                go_region
                all_goals
                  as_aux_lemma =>
                    go_wp2_with fail
                    go_roundw
                    case rel =>
                      have hf := HSB.out
                      have hs2 := HST.out
                      rw [if_neg (by simp)] at hs2
                      rw [← List.foldl_append, ← HK1.out, ← hs2] at hf
                      rw [HK1.out] at hf
                      first
                        | exact ⟨i + 1, by omega, by omega, by rw [HK1.out], hf⟩
                        | ((repeat apply Exists.intro); exact ⟨⟨i + 1, by omega, by omega, by rw [HK1.out], hf⟩, rfl⟩)
                    case measure => (have hk1 := HK1.out; simp [intOf]; omega)
          · have hne : i ≠ k := by omega
            have hgw := HSZ
            have z0 := (bq.cell (p := ⟨b1, 0, none⟩) HB1).trans HCC.out.1
            have z1 := (bq.cell (p := ⟨g, i * 2, none⟩) hgw).trans HCC.out.2.1
            have z2 := (bq.cell (p := ⟨g, i * 2 + 1, none⟩) hgw).trans HCC.out.2.2.1
            have z3 := (bq.cell (p := ⟨g, k * 2, none⟩) hgw).trans HCC.out.2.2.2.1
            have z4 := (bq.cell (p := ⟨g, k * 2 + 1, none⟩) hgw).trans HCC.out.2.2.2.2.1
            have hqq := HQ.out.below bq
            have z5 := (box_cell hqq.c3).1
            have HQ1 := Lib.hid hqq
            have f1 := hqq.own.free (i * 2)
            have f2 := hqq.own.free (i * 2 + 1)
            have f3 := hqq.own.free (k * 2)
            have f4 := hqq.own.free (k * 2 + 1)
            have HSW := Lib.hid (show FillI w0 B b1 b2 b3 bx g n c fid (swpP o k i) ((lvStep (fun o' => lvP m o' (k + 1)) o k (i - k)).foldl acc s) (((((wq.setCell ⟨g, k * 2, none⟩ (.int .i64 px)).setCell ⟨g, k * 2 + 1, none⟩ (.int .i64 py)).setCell ⟨g, i * 2, none⟩ (.int .i64 qx)).setCell ⟨g, i * 2 + 1, none⟩ (.int .i64 qy)).drew) by
              have := hqq.swap (i := k) (j := i) hkn hlt
              simp only [HU.out.1, HU.out.2.1, HU.out.2.2.1, HU.out.2.2.2] at this
              exact this)
            clear y1 y2 y3 cE hqq q1
            go_wp2_with fail
            go_region
            all_goals
              as_aux_lemma =>
                have hs := HSW.out
                have HC2 := Lib.hid (HIH.out _ _ hs)
                clear hs z1 z2 z3 z4 f1 f2 f3 f4
                go_wp2_with fail
                refine HC2.out.mono ?_
                rintro e w3 ⟨rfl, h3⟩
                have HQ3 := Lib.hid h3
                have r4 := (box_cell h3.c1).1
                obtain ⟨c1, c2⟩ := h3.own.cell i hlt
                obtain ⟨c3, c4⟩ := h3.own.cell k hkn
                have f1 := h3.own.free (i * 2)
                have f2 := h3.own.free (i * 2 + 1)
                have f3 := h3.own.free (k * 2)
                have f4 := h3.own.free (k * 2 + 1)
                rw [HAT.out.2, HU.out.2.2.1] at c1
                rw [HAT.out.2, HU.out.2.2.2] at c2
                rw [HAT.out.1, HU.out.1] at c3
                rw [HAT.out.1, HU.out.2.1] at c4
                have HSB := Lib.hid (show FillI w0 B b1 b2 b3 bx g n c fid o ((lvP m (swpP o k i) (k + 1)).foldl acc ((lvStep (fun o' => lvP m o' (k + 1)) o k (i - k)).foldl acc s)) (((((w3.setCell ⟨g, k * 2, none⟩ (.int .i64 qx)).setCell ⟨g, k * 2 + 1, none⟩ (.int .i64 qy)).setCell ⟨g, i * 2, none⟩ (.int .i64 px)).setCell ⟨g, i * 2 + 1, none⟩ (.int .i64 py)).drew) by
                  have := h3.swap (i := k) (j := i) hkn hlt
                  rw [HBK.out] at this; simp only [HAT.out.1, HAT.out.2, HU.out.1, HU.out.2.1, HU.out.2.2.1, HU.out.2.2.2] at this; rw [HK1.out] at this
                  exact this)
                clear h3 z0 z5
                go_wp2_with fail
                go_region
                all_goals
                  as_aux_lemma =>
                    go_wp2_with fail
                    go_roundw
                    case rel =>
                      have hf := HSB.out
                      have hs2 := HST.out
                      rw [if_neg (by simp)] at hs2
                      rw [← List.foldl_append, ← HK1.out, ← hs2] at hf
                      rw [HK1.out] at hf
                      first
                        | exact ⟨i + 1, by omega, by omega, by go_num, hf⟩
                        | ((repeat apply Exists.intro); exact ⟨⟨i + 1, by omega, by omega, by go_num, hf⟩, rfl⟩)
                    case measure => simp [intOf]; omega
      · obtain rfl : i = n := by omega
        have HF := Lib.hid (show FillI w0 B b1 b2 b3 bx g i c fid o ((lvP (m + 1) o k).foldl acc s) wr by
          have h1 := hq
          rw [show i - k = m + 1 by have := HM.out; omega] at h1
          rw [HLV.out]; exact h1)
        clear hq HQ
        go_wp2_with fail
        go_end0
        exact ⟨rfl, HF.out⟩
end Go.Proofs.Ytdnegamminhbfaa
