/- The program's stars, pairs of steps. -/
import Derived.Test.YthpgenkdiokpeaaOrdI1
import Derived.Test.YthpgenkdiokpeaaOrdS2
namespace Go.Proofs.Ythpgenkdiokpeaa
open Go.RowKit Go.Sort Go.Lib

set_option maxRecDepth 100000 in
set_option maxHeartbeats 2000000 in
theorem starOf_any (A : Option Addr) (n c : Nat) (L : List (List Int)) (w : World) (h : RdM w A n L) (hs : SmallM L) :
    Calls Try.prog 141 #[.slice A n c] w fun e w' => (∃ A' m c', e = .returned (.tuple #[.slice A' m c', .bool (starB L)]) ∧ (starB L = true → m = n ∧ OwnV w' w.heap.size A' m c' (ptsL L))) ∧ Below w.heap.size w w' := by
  have HL := Lib.hid h.1
  by_cases h1 : n < 2
  · have HP := Lib.hid (show starB L = false by unfold starB; rw [HL.out, decide_eq_false (by omega : ¬ 2 ≤ n)]; simp)
    rw [HP.out]
    have d1 : decide ((n : Int) < 2) = true := by simp; omega
    clear h hs
    go_enter Try.func141, Try.ntmps141
    go_wp2_with fail
    refine bodyPost_ret (results_tmp2 rfl _ _ _) rfl ?_
    exact ⟨⟨_, _, _, rfl, fun e => by cases e⟩, Below.refl _ _⟩
  · by_cases h2 : n ≤ 4
    · have d1 : decide ((n : Int) < 2) = false := by simp; omega
      have d2 : decide ((n : Int) > 4) = false := by simp; omega
      have HP := Lib.hid (show starB L = stepsB L by unfold starB; rw [HL.out, decide_eq_true (by omega : 2 ≤ n), decide_eq_true h2]; simp)
      rw [HP.out]
      have HT := Lib.hid (stepsOf_any A n c L w h hs (by omega))
      clear h hs
      go_enter Try.func141, Try.ntmps141
      go_wp2_with fail
      refine HT.out.mono ?_
      rintro e w2 ⟨⟨A2, m, c2, rfl, hv⟩, b2⟩
      have HV := Lib.hid hv
      clear hv
      go_wp2_with fail
      refine bodyPost_ret (results_tmp2 rfl _ _ _) rfl ?_
      exact ⟨⟨_, _, _, rfl, HV.out⟩, b2⟩
    · have HP := Lib.hid (show starB L = false by unfold starB; rw [HL.out, decide_eq_false h2]; simp)
      rw [HP.out]
      have d1 : decide ((n : Int) < 2) = false := by simp; omega
      have d2 : decide ((n : Int) > 4) = true := by simp; omega
      clear h hs
      go_enter Try.func141, Try.ntmps141
      go_wp2_with fail
      refine bodyPost_ret (results_tmp2 rfl _ _ _) rfl ?_
      exact ⟨⟨_, _, _, rfl, fun e => by cases e⟩, Below.refl _ _⟩

theorem prI_succ (f : Pt → Pt → Int) (l : List Pt) (i : Nat) : prI f l (i + 1) = prI f l i + sumF (fun j => f (atP l i) (atP l (i + 1 + j))) (l.length - (i + 1)) := rfl

set_option maxRecDepth 100000 in
set_option maxHeartbeats 8000000 in
theorem eachPair_any (fid : FuncId) (cb : Array Value) (bx : Nat) (J : Int → World → Prop) (f : Pt → Pt → Int) (b off n c : Nat) (l : List Pt) (w : World) (hn : n ≤ 1000) (hcap : n ≤ c) (hcm : c ≤ 9223372036854775807)
    (hl : l.length = n) (hbx : bx < w.heap.size) (hR : ∀ s W, J s W → RdV W (some ⟨b, off, none⟩) n l) (hJ : ∀ s W W', J s W → Below W.heap.size W W' → J s W')
    (hv : ∀ i k s W, i < k → k < n → s = prI f l i + sumF (fun j => f (atP l i) (atP l (i + 1 + j))) (k - (i + 1)) → J s W → Calls Try.prog fid (#[vecX (atP l i).1 (atP l i).2, vecX (atP l k).1 (atP l k).2] ++ cb) W fun e w' => e = .returned (.tuple #[]) ∧ J (s + f (atP l i) (atP l k)) w' ∧ W.grownBy w' (some bx))
    (he : ∀ args w, (callFunc fid args).run Try.prog w = .ok (.enter fid args) w) (h0 : J 0 w) :
    Calls Try.prog 145 #[.slice (some ⟨b, off, none⟩) n c, .func (.func fid) #[] cb] w fun e w' => e = .returned (.tuple #[]) ∧ J (prI f l n) w' := by
  have HR := Lib.hid hR
  have HJ := Lib.hid hJ
  have HV := Lib.hid hv
  have H0 := Lib.hid h0
  have HL := Lib.hid hl
  clear hR hJ hv h0 hl
  go_enter Try.func145, Try.ntmps145
  go_wp2_with fail
  go_loopw [4, 5, 7, 10] (fun _ _ _ i wr => ∃ i' : Nat, i' ≤ n ∧ i = .int .i64 i' ∧ J (prI f l i') wr ∧ w.heap.size ≤ wr.heap.size) (fun _ _ _ i _ => n - (intOf i).toNat)
  case atStart => exact ⟨0, Nat.zero_le _, rfl, H0.out, Nat.le_refl _⟩
  case round =>
    obtain ⟨wo, rfl⟩ : ∃ wo, wo = wr := ⟨_, rfl⟩
    obtain ⟨i, hi, rfl, hj, hsz⟩ := hrel
    by_cases hlt : i < n
    · obtain ⟨b', off', e, hbl, hc⟩ := (HR.out _ _ hj).2 (by omega)
      cases e
      obtain ⟨y1, y2⟩ := hc i hlt
      have HV1 := Lib.hid (HV.out i)
      have HSm := Lib.hid (prI_succ f l i)
      rw [HL.out] at HSm
      obtain ⟨F, eF⟩ : ∃ F : Nat → Int, F = fun j => f (atP l i) (atP l (i + 1 + j)) := ⟨_, rfl⟩
      rw [← eF] at HV1 HSm
      have EF := Lib.hid eF
      have HPI := Lib.hid hj
      clear eF hj
      generalize (atP l i).1 = px at *
      generalize (atP l i).2 = py at *
      have hV := World.alloc_heap_new wo (vecO px py)
      have HE := Lib.hid hV
      have HJ1 := Lib.hid (HJ.out _ _ _ HPI.out (below_alloc (Below.refl _ _) (vecO px py)))
      have v1 : IntKind.i64.wrap ((i : Int) + 1) = (i : Int) + 1 := wrap_is rfl (by omega) (by omega)
      have i1 : (0 : Int) ≤ (i : Int) + 1 := by omega
      have i2 : (i : Int) + 1 ≤ n := by omega
      have i3 : ((i : Int) + 1).toNat = i + 1 := by omega
      have i4 : ((n : Int) - ((i : Int) + 1)).toNat = n - (i + 1) := by omega
      obtain ⟨v0, w0, _, _⟩ := pr_cells hV
      clear hc hV
      go_wp2_with fail
      all_goals
        go_loopw [7, 20] (fun _ k wr => ∃ k' : Nat, k' ≤ n - (i + 1) ∧ k = .int .i64 k' ∧ J (prI f l i + sumF F k') wr ∧ wr.heap[wo.heap.size]? = some (vecO px py) ∧ w.heap.size ≤ wr.heap.size) (fun _ k _ => n - (intOf k).toNat)
        case atStart => exact ⟨0, Nat.zero_le _, rfl, by simpa [sumF] using HJ1.out, HE.out, by simp; omega⟩
        case round =>
          obtain ⟨k, hk, rfl, hj, hE, hsz2⟩ := hrel
          by_cases hkl : k < n - (i + 1)
          · first
              | (exfalso; omega)
              | (obtain ⟨b', off', e, hbl2, hc⟩ := (HR.out _ _ hj).2 (by omega)
                 cases e
                 obtain ⟨y3, y4⟩ := hc (i + 1 + k) (by omega)
                 rw [show off + (i + 1 + k) * 2 = off + (i + 1) * 2 + k * 2 by omega] at y3 y4
                 have HV2 := Lib.hid (fun W => HV1.out (i + 1 + k) (prI f l i + sumF F k) W (by omega) (by omega) (by rw [show i + 1 + k - (i + 1) = k by omega]))
                 have HSk := Lib.hid (show sumF F (k + 1) = sumF F k + f (atP l i) (atP l (i + 1 + k)) by rw [sumF, EF.out])
                 generalize f (atP l i) (atP l (i + 1 + k)) = fk at *
                 generalize (atP l (i + 1 + k)).1 = qx at *
                 generalize (atP l (i + 1 + k)).2 = qy at *
                 have hV := World.alloc_heap_new wr (vecO qx qy)
                 have hE2 := al_old (o' := vecO qx qy) hE
                 obtain ⟨e0, e1, _, _⟩ := pr_cells hE2
                 obtain ⟨e2, e3, _, _⟩ := pr_cells hV
                 have HE2 := Lib.hid hE2
                 have HJ2 := Lib.hid (HJ.out _ _ _ hj (below_alloc (Below.refl _ _) (vecO qx qy)))
                 have hsz3 : (wr.alloc (vecO qx qy)).heap.size = wr.heap.size + 1 := by simp
                 have HZ := Lib.hid hsz3
                 clear hc hj hE hE2 hV hsz3
                 go_wp2_with fail
                 refine (HV2.out _ HJ2.out).mono ?_
                 rintro e w3 ⟨rfl, hj3, g3⟩
                 have HJ3 := Lib.hid hj3
                 have HE3 := Lib.hid ((g3.block _ (Array.getElem?_eq_some_iff.1 HE2.out).1 (by intro e; injection e; omega)).trans HE2.out)
                 have HZ3 := Lib.hid (Nat.le_trans (Nat.le_of_eq HZ.out.symm) g3.size)
                 clear hj3 g3
                 go_wp2_with fail
                 go_roundw
                 case rel =>
                   have hz4 := HZ3.out
                   have hj4 := HJ3.out
                   rw [Int.add_assoc, ← HSk.out] at hj4
                   first
                     | exact ⟨k + 1, by omega, by go_num, hj4, HE3.out, by omega⟩
                     | ((repeat apply Exists.intro); exact ⟨⟨k + 1, by omega, by go_num, hj4, HE3.out, by omega⟩, rfl⟩)
                 case measure => simp [intOf]; omega)
          · obtain rfl : k = n - (i + 1) := by omega
            have HJ3 := Lib.hid hj
            clear hj
            go_wp2_with fail
            go_roundw
            case rel =>
              have hj4 := HJ3.out
              rw [← HSm.out] at hj4
              try (subst h)
              first
                | exact ⟨i + 1, by omega, by go_num, hj4, by omega⟩
                | ((repeat apply Exists.intro); exact ⟨⟨i + 1, by omega, by go_num, hj4, by omega⟩, rfl⟩)
            case measure => simp [intOf]; omega
    · obtain rfl : i = n := by omega
      have HJE := Lib.hid hj
      clear hj
      go_wp2_with fail
      go_end0
      exact ⟨rfl, HJE.out⟩
end Go.Proofs.Ythpgenkdiokpeaa
