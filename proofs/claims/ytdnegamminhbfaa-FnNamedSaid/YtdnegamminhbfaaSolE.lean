/- The program's way through all orders of corners. -/
import Derived.Test.YtdnegamminhbfaaSolN2
import Derived.Laws.EntriesVeiled
namespace Go.Proofs.Ytdnegamminhbfaa
open Go.RowKit Go.Sort Go.Lib

abbrev ptrS (g : Nat) : Value := .pointer (some ⟨g, 0, none⟩)
theorem one_cell {W : World} {g : Nat} {v : Value} {T : TypeId} (h : W.heap[g]? = some (.cells #[v] T (0, 0))) : W.cell? ⟨g, 0, none⟩ = some v ∧ W.frozen? ⟨g, 0, none⟩ = false :=
  ⟨by rw [cell_of_row W _ 0 _ _ _ h]; rfl, frozen_of_row W _ 0 _ _ h⟩
/-- What the search through all orders keeps. -/
structure FillS (w0 : World) (B b1 b2 b3 bd bx g n c : Nat) (d o s : List Int) (W : World) : Prop where
  c1 : W.heap[b1]? = some (.cells #[.slice (some ⟨g, 0, none⟩) n c] 30 (0, 0))
  c2 : W.heap[b2]? = some (.cells #[.func (.func 140) #[] #[ptrS bd, ptrS bx]] 119 (0, 0))
  c3 : W.heap[b3]? = some (.cells #[.func (.func 151) #[] #[ptrS b1, ptrS b2, ptrS b3]] 102 (0, 0))
  own : Own W B (some ⟨g, 0, none⟩) n c o
  sd : SolAt W bd d
  sx : SolAt W bx s
  bel : Below B w0 W
  hg : B ≤ g
  ne : b1 ≠ g ∧ b2 ≠ g ∧ b3 ≠ g ∧ bd ≠ g ∧ bx ≠ g ∧ s.length = 6
theorem FillS.below {w0 W W' : World} {B b1 b2 b3 bd bx g n c : Nat} {d o s : List Int} (h : FillS w0 B b1 b2 b3 bd bx g n c d o s W) (hb : Below W.heap.size W W') : FillS w0 B b1 b2 b3 bd bx g n c d o s W' := by
  have key : ∀ {k : Nat} {ob : Obj}, W.heap[k]? = some ob → W'.heap[k]? = some ob := fun hk => (hb.block _ (Array.getElem?_eq_some_iff.1 hk).1).trans hk
  have hB : B ≤ W.heap.size := Nat.le_trans h.hg (Nat.le_of_lt (h.own.row g rfl).2)
  exact ⟨key h.c1, key h.c2, key h.c3, h.own.same hb, h.sd.same hb, h.sx.same hb, h.bel.trans (hb.mono hB), h.hg, h.ne⟩
theorem FillS.swap {w0 W : World} {B b1 b2 b3 bd bx g n c : Nat} {d o s : List Int} (h : FillS w0 B b1 b2 b3 bd bx g n c d o s W) {i j : Nat} (_ : i < n) (_ : j < n) :
    FillS w0 B b1 b2 b3 bd bx g n c d (swpI o i j) s (((W.setCell ⟨g, i, none⟩ (.int .i64 (atI o j))).setCell ⟨g, j, none⟩ (.int .i64 (atI o i))).drew) := by
  have s1 := h.own.stored i (atI o j)
  have s2 := s1.1.stored j (atI o i)
  have g2 := s1.2.trans s2.2
  generalize (W.setCell ⟨g, i, none⟩ (.int .i64 (atI o j))).setCell ⟨g, j, none⟩ (.int .i64 (atI o i)) = W' at *
  have key : ∀ {k : Nat} {ob : Obj}, k ≠ g → W.heap[k]? = some ob → W'.heap[k]? = some ob := fun hne hk => (g2.block _ (Array.getElem?_eq_some_iff.1 hk).1 (by intro e; injection e; omega)).trans hk
  have hB : B ≤ W.heap.size := Nat.le_trans h.hg (Nat.le_of_lt (h.own.row g rfl).2)
  have : FillS w0 B b1 b2 b3 bd bx g n c d (swpI o i j) s W' := ⟨key h.ne.1 h.c1, key h.ne.2.1 h.c2, key h.ne.2.2.1 h.c3, s2.1, key h.ne.2.2.2.1 h.sd, key h.ne.2.2.2.2.1 h.sx, h.bel.grown g2 hB (fun k e => by cases e; exact h.hg), h.hg, h.ne⟩
  exact this.below ((Below.refl _ _).drew)

set_option maxRecDepth 100000 in
set_option maxHeartbeats 8000000 in
theorem fillS_any (w0 : World) (B b1 b2 b3 bd bx g n c : Nat) (d : List Int) (acc : List Int → List Int → List Int) (l : List Int) (hn : n ≤ 1000) (hl : l.length = n) (hcap : n ≤ c) (_ : c ≤ 9223372036854775807)
    (hv : ∀ o s W, o.Perm l → FillS w0 B b1 b2 b3 bd bx g n c d o s W → Calls Try.prog 140 #[.slice (some ⟨g, 0, none⟩) n c, ptrS bd, ptrS bx] W fun e w' => e = .returned (.tuple #[]) ∧ FillS w0 B b1 b2 b3 bd bx g n c d o (acc s o) w')
    (he : ∀ args w, (callFunc 140 args).run Try.prog w = .ok (.enter 140 args) w) :
    ∀ (m k : Nat) (o s : List Int) (W : World), n = k + m → o.Perm l → FillS w0 B b1 b2 b3 bd bx g n c d o s W →
      Calls Try.prog 151 #[.int .i64 k, ptrS b1, ptrS b2, ptrS b3] W fun e w' => e = .returned (.tuple #[]) ∧ FillS w0 B b1 b2 b3 bd bx g n c d o ((lvI m o k).foldl acc s) w' := by
  intro m
  induction m with
  | zero =>
    intro k o s W hm hp hI
    obtain rfl : n = k := by omega
    have HC := Lib.hid (hv o s W hp hI)
    obtain ⟨q1, _⟩ := one_cell hI.c1
    obtain ⟨q2, _⟩ := one_cell hI.c2
    clear hv hI hp hm
    go_enter Try.func151, Try.ntmps151
    go_wp2_with fail
    refine HC.out.mono ?_
    rintro e w2 ⟨rfl, h2⟩
    have H2 := Lib.hid h2
    clear h2
    go_wp2_with fail
    refine bodyPost_ret (results_none rfl _ _ _) rfl ?_
    exact ⟨rfl, H2.out⟩
  | succ m ih =>
    intro k o s W hm hp hI
    have IH := Lib.hid ih
    clear ih
    have HI := Lib.hid hI
    have hol := hp.length_eq
    have HOL := Lib.hid (hol.trans hl)
    have HP := Lib.hid hp
    obtain ⟨q1, _⟩ := one_cell hI.c1
    have HLV := Lib.hid (show lvI (m + 1) o k = lvStI (fun o' => lvI m o' (k + 1)) o k (m + 1) from rfl)
    have d0 : decide ((k : Int) = n) = false := by rw [decide_eq_false_iff_not]; omega
    have d0' : decide (k = n) = false := by rw [decide_eq_false_iff_not]; omega
    have d0'' : ((k : Int) == (n : Int)) = false := by simp; omega
    have HM := Lib.hid hm
    have hkn : k < n := by omega
    clear hv hI hp hm hol
    go_enter Try.func151, Try.ntmps151
    go_wp2_with fail
    go_loopw [5] (fun i wr => ∃ i' : Nat, k ≤ i' ∧ i' ≤ n ∧ i = .int .i64 i' ∧ FillS w0 B b1 b2 b3 bd bx g n c d o ((lvStI (fun o' => lvI m o' (k + 1)) o k (i' - k)).foldl acc s) wr) (fun i _ => n - (intOf i).toNat)
    case atStart => exact ⟨k, Nat.le_refl _, by omega, rfl, by rw [Nat.sub_self]; exact HI.out⟩
    case round =>
      clear q1
      obtain ⟨i, hki, hin, rfl, hq⟩ := hrel
      have HQ := Lib.hid hq
      obtain ⟨q1, _⟩ := one_cell hq.c1
      by_cases hlt : i < n
      · have c1 : wr.cell? ⟨g, i, none⟩ = some (.int .i64 (atI o i)) := hq.own.cell i hlt
        have c3 : wr.cell? ⟨g, k, none⟩ = some (.int .i64 (atI o k)) := hq.own.cell k hkn
        have fr := fun j => hq.own.free j
        have hrd := (hq.own.rd.drop (k := k) (by omega)).take (k := i - k) (by omega)
        rw [Nat.zero_add] at hrd
        have hC := fun W (hW : Below wr.heap.size wr W) => containsI_any (some ⟨g, k, none⟩) (i - k) (c - k) _ (atI o i) W (hrd.same hW) (by omega)
        have hsb : seenI o k (i - k) = decide (atI o i ∈ (o.drop k).take (i - k)) := by
          unfold seenI; rw [show k + (i - k) = i by omega]
        rw [← hsb] at hC
        have HST := Lib.hid (show lvStI (fun o' => lvI m o' (k + 1)) o k (i + 1 - k) = lvStI (fun o' => lvI m o' (k + 1)) o k (i - k) ++ (if seenI o k (i - k) then [] else lvI m (swpI o k i) (k + 1)) by
          rw [show i + 1 - k = (i - k) + 1 by omega, lvStI, show k + (i - k) = i by omega])
        have hpp := swpI_perm (l := o) (i := k) (j := i) (by rw [HOL.out]; exact hkn) (by rw [HOL.out]; exact hlt)
        have HIH := Lib.hid (fun s W hF => IH.out (k + 1) (swpI o k i) s W (by have := HM.out; omega) (hpp.trans HP.out) hF)
        have a1 : atI (swpI o k i) k = atI o i := by
          rw [swpI_at (by rw [HOL.out]; exact hkn) (by rw [HOL.out]; exact hlt)]
          by_cases e : k = i
          · rw [if_pos e, e]
          · rw [if_neg e, if_pos rfl]
        have a2 : atI (swpI o k i) i = atI o k := by
          rw [swpI_at (by rw [HOL.out]; exact hkn) (by rw [HOL.out]; exact hlt), if_pos rfl]
        have HAT := Lib.hid (And.intro a1 a2)
        have HBK := Lib.hid (swpI_back (l := o) (i := k) (j := i) (by rw [HOL.out]; exact hkn) (by rw [HOL.out]; exact hlt))
        generalize hu : atI o i = px at *
        generalize hu3 : atI o k = qx at *
        have HU := Lib.hid (And.intro hu hu3)
        generalize hbz : seenI o k (i - k) = bz at *
        have HCC := Lib.hid (And.intro q1 (And.intro c1 (And.intro c3 fr)))
        have cE : ∀ dr os, Calls Try.prog 133 #[.slice (some ⟨g, k, none⟩) (i - k) (c - k), .int .i64 px] (grow (redrawn wr dr) os) fun e w'' => e = .returned (.bool bz) ∧ ∃ p : Regrown, w'' = grow (redrawn wr p.d) p.os := fun dr os => Calls.regrown_of (hC _ (below_regrown wr dr os))
        have y1 : ∀ dr os, (grow (redrawn wr dr) os).cell? ⟨g, i, none⟩ = some (.int .i64 px) := fun dr os => cell_regrown c1 dr os
        have y3 : ∀ dr os, (grow (redrawn wr dr) os).cell? ⟨b1, 0, none⟩ = some (.slice (some ⟨g, 0, none⟩) n c) := fun dr os => cell_regrown q1 dr os
        have e1 : (0 : Int) ≤ (k : Int) := by omega
        have e2 : (k : Int) ≤ (i : Int) := by omega
        have e3 : (i : Int) ≤ (c : Int) := by omega
        have e4 : ((i : Int) - (k : Int)).toNat = i - k := by omega
        have e5 : ¬ (c = k) := by omega
        have e6 : ¬ (k = c) := by omega
        obtain ⟨k1, hk1⟩ : ∃ k1, k1 = k + 1 := ⟨_, rfl⟩
        rw [← hk1] at HIH HST
        have HK1 := Lib.hid hk1
        have v1 : IntKind.i64.wrap ((k : Int) + 1) = (k1 : Int) := wrap_is (by omega) (by omega) (by omega)
        have HSZ : g < wr.heap.size := (hq.own.row g rfl).2
        have HB1 : b1 < wr.heap.size := (Array.getElem?_eq_some_iff.1 hq.c1).1
        have nb1 : ¬ b1 = g := hq.ne.1
        have nb2 : ¬ g = b1 := fun e => hq.ne.1 e.symm
        have nb3 : ¬ b3 = g := hq.ne.2.2.1
        have nb4 : ¬ g = b3 := fun e => hq.ne.2.2.1 e.symm
        clear hq c1 c3 fr hrd hC hsb hpp a1 a2 hu hu3 hbz hk1
        cases bz with
        | true =>
          go_wp2_with fail
          refine wp_region_quiet_below (by kernel_rfl) (by kernel_rfl) ?_
          repeat (go_big_quiet_step (with_reducible exact cE _ _))
          refine wpQuiet_nil ?_
          intro _ hw'
          obtain ⟨⟨dq, osq⟩, hw''⟩ := hw'
          subst hw''
          have bq := below_regrown wr dq osq
          generalize Go.Sort.grow (redrawn wr dq) osq = wq at bq ⊢
          go_wp2_with fail
          go_roundw
          case rel =>
            have hf := HQ.out.below bq
            have hs2 := HST.out
            rw [if_pos (by first | rfl | trivial), List.append_nil] at hs2
            rw [HK1.out] at hs2
            rw [← hs2] at hf
            first
              | exact ⟨i + 1, by omega, by omega, by go_num, hf⟩
              | ((repeat apply Exists.intro); exact ⟨⟨i + 1, by omega, by omega, by go_num, hf⟩, rfl⟩)
          case measure => simp [intOf]; omega
        | false =>
          go_wp2_with fail
          refine wp_region_quiet_below (by kernel_rfl) (by kernel_rfl) ?_
          repeat (go_big_quiet_step (with_reducible exact cE _ _))
          refine wpQuiet_nil ?_
          intro _ hw'
          obtain ⟨⟨dq, osq⟩, hw''⟩ := hw'
          subst hw''
          have bq := below_regrown wr dq osq
          generalize Go.Sort.grow (redrawn wr dq) osq = wq at bq ⊢
          rcases Nat.eq_or_lt_of_le hki with hik | hik
          · obtain rfl : i = k := hik.symm
            obtain rfl : px = qx := HU.out.1.symm.trans HU.out.2
            have hgw := HSZ
            have z0 := (bq.cell (p := ⟨b1, 0, none⟩) HB1).trans HCC.out.1
            have z1 := (bq.cell (p := ⟨g, i, none⟩) hgw).trans HCC.out.2.1
            have z3 := (bq.cell (p := ⟨g, i, none⟩) hgw).trans HCC.out.2.2.1
            have hqq := HQ.out.below bq
            have z5 := (one_cell hqq.c3).1
            have f1 := hqq.own.free i
            have f3 := hqq.own.free i
            have HSW := Lib.hid (show FillS w0 B b1 b2 b3 bd bx g n c d (swpI o i i) ((lvStI (fun o' => lvI m o' (i + 1)) o i (i - i)).foldl acc s) (((wq.setCell ⟨g, i, none⟩ (.int .i64 px)).setCell ⟨g, i, none⟩ (.int .i64 px)).drew) by
              have := hqq.swap (i := i) (j := i) hlt hlt
              simp only [HU.out.1] at this
              exact this)
            clear y1 y3 cE hqq q1
            go_wp2_with fail
            go_region
            all_goals
              as_aux_lemma =>
                have hs := HSW.out
                have HC2 := Lib.hid (HIH.out _ _ hs)
                clear hs z1 z3 f1 f3
                go_wp2_with fail
                refine HC2.out.mono ?_
                rintro e w3 ⟨rfl, h3⟩
                have HQ3 := Lib.hid h3
                have r4 := (one_cell h3.c1).1
                have c1 : w3.cell? ⟨g, i, none⟩ = some (.int .i64 (atI (swpI o i i) i)) := h3.own.cell i hlt
                have c3 : w3.cell? ⟨g, i, none⟩ = some (.int .i64 (atI (swpI o i i) i)) := h3.own.cell i hkn
                have f1 := h3.own.free i
                have f3 := h3.own.free i
                rw [HAT.out.2] at c1
                rw [HAT.out.1] at c3
                have HSB := Lib.hid (show FillS w0 B b1 b2 b3 bd bx g n c d o ((lvI m (swpI o i i) (i + 1)).foldl acc ((lvStI (fun o' => lvI m o' (i + 1)) o i (i - i)).foldl acc s)) (((w3.setCell ⟨g, i, none⟩ (.int .i64 px)).setCell ⟨g, i, none⟩ (.int .i64 px)).drew) by
                  have := h3.swap (i := i) (j := i) hlt hlt
                  rw [HBK.out] at this; simp only [HAT.out.1] at this; rw [HK1.out] at this
                  exact this)
                clear h3 z0 z5
                go_wp2_with fail
                go_region
                all_goals
                  as_aux_lemma =>
                    go_wp2_with fail
                    go_roundw
                    case rel =>
                      have hf := HSB.out
                      have hs2 := HST.out
                      rw [if_neg (by simp)] at hs2
                      rw [← List.foldl_append, ← HK1.out, ← hs2] at hf
                      rw [HK1.out] at hf
                      first
                        | exact ⟨i + 1, by omega, by omega, by rw [HK1.out], hf⟩
                        | exact ⟨i + 1, by omega, by omega, by go_num, hf⟩
                        | ((repeat apply Exists.intro); exact ⟨⟨i + 1, by omega, by omega, by rw [HK1.out], hf⟩, rfl⟩)
                        | ((repeat apply Exists.intro); exact ⟨⟨i + 1, by omega, by omega, by go_num, hf⟩, rfl⟩)
                    case measure => (have hk1 := HK1.out; simp [intOf]; omega)
          · have hne : i ≠ k := by omega
            have hgw := HSZ
            have z0 := (bq.cell (p := ⟨b1, 0, none⟩) HB1).trans HCC.out.1
            have z1 := (bq.cell (p := ⟨g, i, none⟩) hgw).trans HCC.out.2.1
            have z3 := (bq.cell (p := ⟨g, k, none⟩) hgw).trans HCC.out.2.2.1
            have hqq := HQ.out.below bq
            have z5 := (one_cell hqq.c3).1
            have f1 := hqq.own.free i
            have f3 := hqq.own.free k
            have HSW := Lib.hid (show FillS w0 B b1 b2 b3 bd bx g n c d (swpI o k i) ((lvStI (fun o' => lvI m o' (k + 1)) o k (i - k)).foldl acc s) (((wq.setCell ⟨g, k, none⟩ (.int .i64 px)).setCell ⟨g, i, none⟩ (.int .i64 qx)).drew) by
              have := hqq.swap (i := k) (j := i) hkn hlt
              simp only [HU.out.1, HU.out.2] at this
              exact this)
            clear y1 y3 cE hqq q1
            go_wp2_with fail
            go_region
            all_goals
              as_aux_lemma =>
                have hs := HSW.out
                have HC2 := Lib.hid (HIH.out _ _ hs)
                clear hs z1 z3 f1 f3
                go_wp2_with fail
                refine HC2.out.mono ?_
                rintro e w3 ⟨rfl, h3⟩
                have HQ3 := Lib.hid h3
                have r4 := (one_cell h3.c1).1
                have c1 : w3.cell? ⟨g, i, none⟩ = some (.int .i64 (atI (swpI o k i) i)) := h3.own.cell i hlt
                have c3 : w3.cell? ⟨g, k, none⟩ = some (.int .i64 (atI (swpI o k i) k)) := h3.own.cell k hkn
                have f1 := h3.own.free i
                have f3 := h3.own.free k
                rw [HAT.out.2] at c1
                rw [HAT.out.1] at c3
                have HSB := Lib.hid (show FillS w0 B b1 b2 b3 bd bx g n c d o ((lvI m (swpI o k i) (k + 1)).foldl acc ((lvStI (fun o' => lvI m o' (k + 1)) o k (i - k)).foldl acc s)) (((w3.setCell ⟨g, k, none⟩ (.int .i64 qx)).setCell ⟨g, i, none⟩ (.int .i64 px)).drew) by
                  have := h3.swap (i := k) (j := i) hkn hlt
                  rw [HBK.out] at this; simp only [HAT.out.1, HAT.out.2] at this; rw [HK1.out] at this
                  exact this)
                clear h3 z0 z5
                go_wp2_with fail
                go_region
                all_goals
                  as_aux_lemma =>
                    go_wp2_with fail
                    go_roundw
                    case rel =>
                      have hf := HSB.out
                      have hs2 := HST.out
                      rw [if_neg (by simp)] at hs2
                      rw [← List.foldl_append, ← HK1.out, ← hs2] at hf
                      rw [HK1.out] at hf
                      first
                        | exact ⟨i + 1, by omega, by omega, by rw [HK1.out], hf⟩
                        | exact ⟨i + 1, by omega, by omega, by go_num, hf⟩
                        | ((repeat apply Exists.intro); exact ⟨⟨i + 1, by omega, by omega, by rw [HK1.out], hf⟩, rfl⟩)
                        | ((repeat apply Exists.intro); exact ⟨⟨i + 1, by omega, by omega, by go_num, hf⟩, rfl⟩)
                    case measure => (have hk1 := HK1.out; simp [intOf]; omega)
      · obtain rfl : i = n := by omega
        have HF := Lib.hid (show FillS w0 B b1 b2 b3 bd bx g i c d o ((lvI (m + 1) o k).foldl acc s) wr by
          have h1 := hq
          rw [show i - k = m + 1 by have := HM.out; omega] at h1
          rw [HLV.out]; exact h1)
        clear hq HQ
        go_wp2_with fail
        go_end0
        exact ⟨rfl, HF.out⟩
end Go.Proofs.Ytdnegamminhbfaa
