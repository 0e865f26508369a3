/- The program's reading of a path, walked. -/
import Derived.Test.YtdnegamminhbfaaStepsOf
import Derived.Test.YtdnegamminhbfaaRingOf
namespace Go.Proofs.Ytdnegamminhbfaa
open Go.RowKit Go.Sort Go.Lib

theorem pathB_steps (L : List (List Int)) : pathB L = (stepsB L && (decide (3 ≤ L.length) && decide (L.length ≤ 8)) && decide (tot (ptsL L) = (0, 0))) := rfl
theorem OwnV.cap {w : World} {B n c : Nat} {A : Option Addr} {l : List Pt} (h : OwnV w B A n c l) : n ≤ c ∧ c ≤ maxLen := by
  rcases h.2 with ⟨e, h0⟩ | ⟨g, cap, cur, e, _, _, hnc, hcm, _⟩
  · injection e with _ _ e; omega
  · injection e with _ _ e; omega
theorem cor_bd1000 {l : List Pt} (h8 : l.length ≤ 8) (hs : ∀ s ∈ l, stepP s) : ∀ k, k ≤ l.length → (-1000 ≤ (cor l k).1 ∧ (cor l k).1 ≤ 1000) ∧ (-1000 ≤ (cor l k).2 ∧ (cor l k).2 ≤ 1000) := by
  have key : ∀ k, k ≤ l.length → (-(9 * (k : Int)) ≤ (cor l k).1 ∧ (cor l k).1 ≤ 9 * k) ∧ (-(9 * (k : Int)) ≤ (cor l k).2 ∧ (cor l k).2 ≤ 9 * k) := fun k => by
    induction k with
    | zero => intro _; rw [cor_zero]; simp
    | succ k ih =>
      intro hk
      have h1 := ih (by omega)
      have h2 := hs _ (by rw [atP_lt (by omega : k < l.length)]; exact List.getElem_mem (by omega) : atP l k ∈ l)
      rw [cor_succ (by omega)]
      unfold stepP at h2
      simp only [addP]
      generalize atP l k = q at *
      omega
  intro k hk
  have := key k hk
  omega

set_option maxRecDepth 100000 in
set_option maxHeartbeats 8000000 in
theorem pathOf_any (A : Option Addr) (n c : Nat) (L : List (List Int)) (w : World) (h : RdM w A n L) (hs : SmallM L) :
    Calls Try.prog 85 #[.slice A n c] w fun e w' => (∃ v, e = .returned (.tuple #[v, .bool (pathB L)]) ∧ (pathB L = true → ∃ gs, v = ptrV (gs.getD 0 0) ∧ Ring w' gs (corL (ptsL L)) ∧ ∀ i, i < n → w.heap.size ≤ gs.getD i 0)) ∧ Below w.heap.size w w' := by
  have hl := h.1
  have hn : n ≤ 1048576 := by rw [← hl]; exact hs.len
  obtain ⟨pb, epb⟩ : ∃ pb, pb = pathB L := ⟨_, rfl⟩
  rw [← epb]
  have EPB := Lib.hid epb
  clear epb
  by_cases hr : 3 ≤ n ∧ n ≤ 8
  · obtain ⟨hr1, hr2⟩ := hr
    have d1 : decide ((n : Int) < 3) = false := by simp; omega
    have d2 : decide ((n : Int) > 8) = false := by simp; omega
    have hpq : pathB L = (stepsB L && decide (tot (ptsL L) = (0, 0))) := by
      rw [pathB_steps, hl, decide_eq_true hr1, decide_eq_true hr2]; simp
    have HPQ := Lib.hid hpq
    have HS := Lib.hid (stepsOf_any A n c L w h hs (by omega))
    have HL := Lib.hid hl
    clear hpq
    cases hsb : stepsB L with
    | false =>
      obtain rfl : pb = false := by rw [EPB.out, HPQ.out, hsb]; rfl
      have hS := HS.out
      rw [hsb] at hS
      clear h hs hl HS
      go_enter Try.func85, Try.ntmps85
      go_wp2_with fail
      refine hS.mono ?_
      rintro e w1 ⟨⟨A1, m, c1, rfl, _⟩, b1⟩
      go_wp2_with fail
      refine bodyPost_ret (results_tmp2 rfl _ _ _) rfl ?_
      exact ⟨⟨_, rfl, fun e => by cases e⟩, b1⟩
    | true =>
      have hS := HS.out
      rw [hsb] at hS
      have hst : ∀ s ∈ ptsL L, stepP s := fun s hs' => by
        obtain ⟨r, hr, rfl⟩ := List.mem_map.1 hs'
        exact (stepRow_pt (List.all_eq_true.1 hsb r hr)).1
      have hlp : (ptsL L).length = n := by simp [hl]
      have HBD := Lib.hid (cor_bd1000 (l := ptsL L) (by omega) hst)
      have HPT := Lib.hid (show pathB L = decide (tot (ptsL L) = (0, 0)) by rw [HPQ.out, hsb]; simp)
      have HLP := Lib.hid hlp
      have HTT := Lib.hid (show cor (ptsL L) n = tot (ptsL L) by rw [← hlp]; exact cor_len _)
      generalize ptsL L = l at *
      clear h hs hl HS hsb hst HPQ hlp
      go_enter Try.func85, Try.ntmps85
      go_wp2_with fail
      refine hS.mono ?_
      rintro e w1 ⟨⟨A1, m, c1, rfl, hv⟩, b1⟩
      obtain ⟨rfl, ov⟩ := hv (by first | rfl | trivial)
      have hcp := ov.cap
      have HOV := Lib.hid ov
      have hV := World.alloc_heap_new w1 (vecO 0 0)
      have HB1 := Lib.hid (below_alloc b1 (vecO 0 0))
      have HV := Lib.hid hV
      clear hv hS ov hV
      go_wp2_with fail
      go_loopw [8, 27] (fun _ i wr => ∃ (k : Nat), k ≤ m ∧ i = .int .i64 k ∧ wr.heap[w1.heap.size]? = some (vecO (cor l k).1 (cor l k).2) ∧ Below w.heap.size w wr ∧ Below w1.heap.size w1 wr) (fun _ i _ => m - (intOf i).toNat)
      case atStart => exact ⟨0, Nat.zero_le _, rfl, by rw [cor_zero]; exact HV.out, HB1.out, below_alloc (Below.refl _ _) _⟩
      case round =>
        obtain ⟨k, hk, rfl, hE, hb, hb2⟩ := hrel
        by_cases hlt : k < m
        · obtain ⟨b, off, rfl, hbl, hc⟩ := (HOV.out.rd.below (Nat.le_refl _) hb2).2 (by omega)
          obtain ⟨y1, y2⟩ := hc k hlt
          have hcs := cor_succ (l := l) (i := k) (by rw [HLP.out]; omega)
          have hb3 := HBD.out (k + 1) (by rw [HLP.out]; omega)
          have hP := fun W => plus_any (cor l k).1 (cor l k).2 (atP l k).1 (atP l k).2 W (by rw [hcs] at hb3; simp only [addP] at hb3; omega) (by rw [hcs] at hb3; simp only [addP] at hb3; omega)
          have hg1 : (cor l k).1 + (atP l k).1 = (cor l (k + 1)).1 := by rw [hcs]; rfl
          have hg2 : (cor l k).2 + (atP l k).2 = (cor l (k + 1)).2 := by rw [hcs]; rfl
          rw [hg1, hg2] at hP
          have HP := Lib.hid hP
          have hV := World.alloc_heap_new wr (vecO (atP l k).1 (atP l k).2)
          obtain ⟨v0, v1, _, _⟩ := pr_cells hV
          have hE2 := al_old (o' := vecO (atP l k).1 (atP l k).2) hE
          obtain ⟨e0, e1, _, _⟩ := pr_cells hE2
          have HE2 := Lib.hid hE2
          have HW2 := Lib.hid (below_alloc hb (vecO (atP l k).1 (atP l k).2))
          have HW3 := Lib.hid (below_alloc hb2 (vecO (atP l k).1 (atP l k).2))
          have HSZ := Lib.hid hb2.size
          have HZ1 := Lib.hid b1.size
          clear hP hg1 hg2 hcs hb3 hc hV hE hE2 hb hb2
          generalize (atP l k).1 = qx at *
          generalize (atP l k).2 = qy at *
          go_wp2_with fail
          refine (HP.out _).mono ?_
          rintro e w3 ⟨rfl, b3⟩
          have hE3 : w3.heap[w1.heap.size]? = some (vecO (cor l k).1 (cor l k).2) := (b3.block _ (Array.getElem?_eq_some_iff.1 HE2.out).1).trans HE2.out
          have HE3 := Lib.hid hE3
          obtain ⟨_, _, f0, f1⟩ := pr_cells hE3
          obtain ⟨u0, u1, _, _⟩ := pr_cells hE3
          have HB3 := Lib.hid b3
          clear b3 hE3
          go_wp2_with fail
          go_roundw
          case rel =>
            have q1 := pr_set HE3.out (.int .i64 (cor l (k + 1)).1) (.int .i64 (cor l (k + 1)).2)
            have q2 := pr_below (below_then HW2.out HB3.out) (HZ1.out) (.int .i64 (cor l (k + 1)).1) (.int .i64 (cor l (k + 1)).2)
            have q3 := pr_below (below_then HW3.out HB3.out) (Nat.le_refl _) (.int .i64 (cor l (k + 1)).1) (.int .i64 (cor l (k + 1)).2)
            first
              | exact ⟨k + 1, by omega, by go_num, q1, q2, q3⟩
              | ((repeat apply Exists.intro); exact ⟨⟨k + 1, by omega, by go_num, q1, q2, q3⟩, rfl⟩)
          case measure => simp [intOf]; omega
        · obtain rfl : k = m := by omega
          rw [HTT.out] at hE
          obtain ⟨e0, e1, _, _⟩ := pr_cells hE
          have HB := Lib.hid hb
          have HB2 := Lib.hid hb2
          by_cases htot : tot l = (0, 0)
          · obtain rfl : pb = true := by rw [EPB.out, HPT.out, htot]; rfl
            rw [htot] at e0 e1
            have HR := Lib.hid (fun W (hW : Below w1.heap.size w1 W) => ring_any A1 k c1 l W (HOV.out.rd.below (Nat.le_refl _) hW) (by omega) (by omega) hcp.1 hcp.2 (by rw [HLP.out] at HBD; exact HBD.out))
            clear hE hb hb2 htot
            go_wp2_with fail
            refine (HR.out _ HB2.out).mono ?_
            rintro e w4 ⟨⟨gs, rfl, hR, hg⟩, b4⟩
            have HG := Lib.hid (And.intro hR hg)
            have HZ := Lib.hid HB.out.size
            clear hR hg
            go_wp2_with fail
            refine bodyPost_ret (results_tmp2 rfl _ _ _) rfl ?_
            exact ⟨⟨_, rfl, gs, rfl, HG.out.1, fun i hi => Nat.le_trans HZ.out (HG.out.2 i hi)⟩, below_then HB.out b4⟩
          · obtain rfl : pb = false := by rw [EPB.out, HPT.out]; exact decide_eq_false htot
            have hne : (tot l).1 ≠ 0 ∨ (tot l).2 ≠ 0 := by
              by_cases e : (tot l).1 = 0
              · exact .inr fun e2 => htot (Prod.ext e e2)
              · exact .inl e
            clear hE hb hb2 htot
            generalize (tot l).1 = tx at *
            generalize (tot l).2 = ty at *
            by_cases htx : tx = 0
            · have hty : ty ≠ 0 := by rcases hne with h | h; exact absurd htx h; exact h
              subst htx
              clear hne
              go_wp2_with fail
              refine bodyPost_ret (results_tmp2 rfl _ _ _) rfl ?_
              exact ⟨⟨_, rfl, fun e => by cases e⟩, HB.out⟩
            · clear hne
              go_wp2_with fail
              refine bodyPost_ret (results_tmp2 rfl _ _ _) rfl ?_
              exact ⟨⟨_, rfl, fun e => by cases e⟩, HB.out⟩
  · have hpB : pathB L = false := by
      unfold pathB
      rw [hl]
      have : (decide (3 ≤ n) && decide (n ≤ 8)) = false := by
        rw [Bool.and_eq_false_iff, decide_eq_false_iff_not, decide_eq_false_iff_not]; omega
      rw [this]; simp
    obtain rfl : pb = false := EPB.out.trans hpB
    clear hpB h hs hl EPB
    by_cases h3 : n < 3
    · have d1 : decide ((n : Int) < 3) = true := by simp; omega
      go_enter Try.func85, Try.ntmps85
      go_wp2_with fail
      refine bodyPost_ret (results_tmp2 rfl _ _ _) rfl ?_
      exact ⟨⟨_, rfl, fun e => by cases e⟩, Below.refl _ _⟩
    · have d1 : decide ((n : Int) < 3) = false := by simp; omega
      have d2 : decide ((n : Int) > 8) = true := by simp; omega
      go_enter Try.func85, Try.ntmps85
      go_wp2_with fail
      refine bodyPost_ret (results_tmp2 rfl _ _ _) rfl ?_
      exact ⟨⟨_, rfl, fun e => by cases e⟩, Below.refl _ _⟩
end Go.Proofs.Ytdnegamminhbfaa
