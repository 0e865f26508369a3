/- The model's own sort. -/
import Derived.Test.YtiadnbdefcimiaaSort
import Derived.Test.YtiadnbdefcimiaaS1a
import Derived.Deep.RegionLaw
namespace Go.Proofs.Ytiadnbdefcimiaa
open Go.RowKit

theorem isortTo_app (xs : List Int) (k : Nat) : (isortTo xs k).take (pos (isortTo xs k) (xs.getD k 0)) ++ [xs.getD k 0] ++ (isortTo xs k).drop (pos (isortTo xs k) (xs.getD k 0)) = isortTo xs (k + 1) := by
  rw [isortTo, ins]; simp

theorem ins_list {xs P : List Int} {k J : Nat} {x : Int} (hP : P = isortTo xs k) (hx : x = xs.getD k 0) (hJ : J = pos P x) : ([] ++ P.take J ++ [x]) ++ P.drop J = isortTo xs (k + 1) := by
  subst hP hx hJ
  rw [List.nil_append, isortTo_app]
theorem sl_eq {A : Option Addr} {m n c : Nat} (h : m = n) : Value.slice A m c = .slice A n c := by rw [h]
theorem Own.as {w : World} {B B' m n c : Nat} {A : Option Addr} {xs ys : List Int} (h : Own w B A m c xs) (hm : m = n) (hx : xs = ys) (hB : B' ≤ B) : Own w B' A n c ys := by subst hm hx; exact h.lower hB
theorem lit_second (wq : World) (o : Obj) : Own ((wq.alloc o).alloc (.cells #[] 3)).drew wq.heap.size (some ⟨wq.heap.size + 1, 0, none⟩) 0 0 [] := by
  have h := (Own.lit (wq.alloc o) (B := wq.heap.size) (by simp) [] (by simp)).dr
  rw [World.size_alloc] at h
  exact h
theorem lit_after (wq w1 : World) (x : Int) {n c : Nat} (g1 : ((wq.alloc (.cells #[] 3)).alloc (.cells #[.int .i64 x] 3)).drew.grownBy w1 (Value.slice (some ⟨wq.heap.size, 0, none⟩) n c).ownBlock) : Rd w1 (some ⟨wq.heap.size + 1, 0, none⟩) 1 [x] := by
  have h := (rd_one (wq.alloc (.cells #[] 3)) x).dr
  rw [World.size_alloc] at h
  refine Rd.kept h g1 fun b off e => ?_
  injection e with e
  injection e with e _ _
  simp [Value.ownBlock]
  omega
theorem lit_ahead (wq w1 : World) (x : Int) {n c : Nat} (g1 : ((wq.alloc (.cells #[.int .i64 x] 3)).alloc (.cells #[] 3)).drew.grownBy w1 (Value.slice (some ⟨wq.heap.size + 1, 0, none⟩) n c).ownBlock) : Rd w1 (some ⟨wq.heap.size, 0, none⟩) 1 [x] := by
  refine Rd.kept ((rd_one wq x).al (.cells #[] 3)).dr g1 fun b off e => ?_
  injection e with e
  injection e with e _ _
  simp [Value.ownBlock]
  omega
set_option maxHeartbeats 4000000 in
theorem l1Sort_any (A : Option Addr) (n c : Nat) (xs : List Int) (w : World) (h : Rd w A n xs) (hn : n ≤ 1048576) :
    Calls Try.prog 92 #[.slice A n c] w fun e w' => ∃ A' c', e = .returned (.slice A' n c') ∧ Own w' w.heap.size A' n c' (isort xs) ∧ Below w.heap.size w w' := by
  have hl := Own.lit w (Nat.le_refl _) [] (by simp)
  have HL := Lib.hid h.1
  go_enter Try.func92, Try.ntmps92
  go_wp2
  go_loopw [3, 4, 5] (fun l i _ wr => ∃ (k g c' : Nat), k ≤ n ∧ l = .slice (some ⟨g, 0, none⟩) k c' ∧ i = .int .i64 k ∧ Own wr w.heap.size (some ⟨g, 0, none⟩) k c' (isortTo xs k) ∧ Below w.heap.size w wr) (fun _ i _ _ => n - (intOf i).toNat)
  case atStart => exact ⟨0, _, _, Nat.zero_le _, rfl, rfl, hl, below_alloc (Below.refl _ _) _⟩
  case round =>
    obtain ⟨k, g, c', hk, rfl, rfl, ho, hb⟩ := hrel
    clear hl
    by_cases hlt : k < n
    · obtain ⟨b, off, rfl, hbl, hc⟩ := h.2 (by omega)
      obtain ⟨wo, rfl⟩ : ∃ wo : World, wo = wr := ⟨_, rfl⟩
      have hcx : wo.cell? ⟨b, off + k, none⟩ = some (.int .i64 (xs.getD k 0)) := (hb.cell (p := ⟨b, off + k, none⟩) hbl).trans (hc k hlt)
      have hPl : (isortTo xs k).length = k := length_isortTo xs k
      obtain ⟨P, hP⟩ : ∃ P, P = isortTo xs k := ⟨_, rfl⟩
      obtain ⟨x, ex⟩ : ∃ x, x = xs.getD k 0 := ⟨_, rfl⟩
      rw [← hP] at ho hPl
      rw [← ex] at hcx
      have hpos : posTo P x k = pos P x := by unfold pos; rw [hPl]
      have HP := Lib.hid hP
      have EX := Lib.hid ex
      have HQ := Lib.hid hpos
      have HPL := Lib.hid hPl
      have hcap := ho.cap
      clear hP ex hpos hPl hc h
      go_wp2
      go_loopw [5] (fun i wr => ∃ j : Nat, j ≤ k ∧ i = .int .i64 j ∧ posTo P x j = pos P x ∧ Own wr w.heap.size (some ⟨g, 0, none⟩) k c' P ∧ Below w.heap.size w wr ∧ wr.cell? ⟨b, off + k, none⟩ = some (.int .i64 x)) (fun i _ => (intOf i).toNat)
      case atStart => exact ⟨k, Nat.le_refl _, rfl, HQ.out, ho, hb, hcx⟩
      case round =>
        clear ho hb hcx
        obtain ⟨j, hj, rfl, hp, ho, hb, hcx⟩ := hrel
        have HJ := Lib.hid hp
        clear hp
        by_cases hgo : ∃ m, j = m + 1 ∧ x < P.getD m 0
        · obtain ⟨m, rfl, hlt2⟩ := hgo
          have hcy := ho.cell m (by omega)
          obtain ⟨y, ey⟩ : ∃ y, y = P.getD m 0 := ⟨_, rfl⟩
          rw [← ey] at hcy hlt2
          have EY := Lib.hid ey
          clear ey
          have hd : decide (((m : Int) + 1) > 0) = true := by simp
          have HO := Lib.hid ho
          clear ho
          go_wp2
          go_quiet (fail)
          go_wp2
          go_roundw
          case rel => exact ⟨m, by omega, by go_num, by rw [← HJ.out, posTo_go (by rw [← EY.out]; exact hlt2)], HO.out.drN _, below_drewN hb _, hcx⟩
          case measure => simp [intOf]
        · have hstop : j = pos P x := by
            rw [← HJ.out]
            match j, hgo with
            | 0, _ => rfl
            | m + 1, hgo => rw [posTo_stop]; have : ¬ x < P.getD m 0 := fun hh => hgo ⟨m, rfl, hh⟩; omega
          have hcase : j = 0 ∨ ∃ m, j = m + 1 ∧ ¬ x < P.getD m 0 := by
            rcases Nat.eq_zero_or_pos j with h0 | h0
            · exact .inl h0
            · exact .inr ⟨j - 1, by omega, fun hh => hgo ⟨j - 1, by omega, hh⟩⟩
          have HSTOP := Lib.hid hstop
          clear hstop hgo
          rcases hcase with rfl | ⟨m, rfl, hnl⟩
          · have hd : decide ((0 : Int) > 0) = false := by simp
            go_wp2
            go_quiet (fail)
            go_wp2
            have ho' := ho.drN nq
            have hb' := below_drewN hb nq
            have hcx' : (wr.drewN nq).cell? ⟨b, off + k, none⟩ = some (.int .i64 x) := hcx
            clear ho hb hcx
            generalize wr.drewN nq = wq at *
            have hbw : b < wq.heap.size := Nat.lt_of_lt_of_le hbl hb'.size
            have hq0 : wq.heap.size ≤ wq.heap.size := Nat.le_refl _
            have hq1 : ∀ o, wq.heap.size ≤ (wq.alloc o).heap.size := fun o => by simp
            have HQ1 := Lib.hid hq1
            clear hq1
            have hz0 : ([] : List Int).length ≤ 16777216 := by simp
            have rT := Lib.hid (ho'.rd.take (k := 0) (by omega))
            have rD := Lib.hid ho'.rd
            go_region_law (first | (refine step_app2 wq (c2 := c') rfl (.tmp 31) (.tmp 34) rfl [] rfl ?_ (P.take 0) rfl ?_ ?_ ?_ ?_; (· first | exact (Own.lit wq hq0 [] hz0).dr | exact ((Own.lit wq hq0 [] hz0).al _).dr | exact lit_second wq _); (· first | exact (rT.out.al _).dr | exact ((rT.out.al _).al _).dr); (· first | exact (below_alloc (Below.refl _ _) _).drew | exact (below_alloc (below_alloc (Below.refl _ _) _) _).drew); (· first | omega | (simp; done) | (simp; omega)); intro A1 c1 w1 o1 b1 g1; (first | have q1 := lit_after wq w1 x g1 | have q1 := lit_ahead wq w1 x g1 | skip); have hcx1 := (b1.cell (p := ⟨b, off + k, none⟩) hbw).trans hcx'; clear g1) | (refine step_app2 wq (c2 := 1) rfl (.tmp 35) (.tmp 40) rfl ([] ++ P.take 0) rfl ?_ [x] rfl ?_ ?_ ?_ ?_; (· first | exact o1 | exact o1.al _ | exact o1.dr | exact (o1.al _).dr); (· first | exact q1 | exact q1.dr | exact rd_one _ _ | exact (rd_one _ _).dr); (· first | exact b1 | exact b1.drew | exact below_alloc b1 _ | exact (below_alloc b1 _).drew); (· first | omega | (simp; done) | (simp; omega)); intro A2 c2 w2 o2 b2 g2; clear g2) | (refine step_app2 wq (c2 := c') rfl (.tmp 41) (.tmp 44) rfl ([] ++ P.take 0 ++ [x]) rfl ?_ P rfl ?_ ?_ ?_ ?_; (· first | exact o2 | exact o2.dr); (· first | exact rD.out.same b2 | exact (rD.out.same b2).dr); (· first | exact b2 | exact b2.drew); (· first | omega | (simp; done) | (simp; omega)); intro A3 c3 w3 o3 b3 g3; clear g3))
            all_goals
              have o4 := o3.as (n := k + 1) (B' := w.heap.size) (by omega) (by simpa using ins_list HP.out EX.out HSTOP.out) hb'.size
              have b4 := hb'.trans (b3.mono hb'.size)
              obtain ⟨g3, rfl, _, _⟩ := o3.form (by omega)
              have HO := Lib.hid o4
              clear o4 o3 b3 ho' hcx'
              go_wp2
              go_roundw
              case rel => first | exact ⟨k + 1, g3, c3, by omega, sl_eq (by omega), by go_num, HO.out, b4⟩ | ((repeat apply Exists.intro); exact ⟨⟨k + 1, g3, c3, by omega, sl_eq (by omega), by go_num, HO.out, b4⟩, rfl⟩)
              case measure => simp [intOf]; omega
          · have hcy := ho.cell m (by omega)
            obtain ⟨y, ey⟩ : ∃ y, y = P.getD m 0 := ⟨_, rfl⟩
            rw [← ey] at hcy hnl
            clear ey
            have hd : decide (((m : Int) + 1) > 0) = true := by simp
            have hd2 : decide (x < y) = false := by simpa using hnl
            go_wp2
            go_quiet (fail)
            go_wp2
            have ho' := ho.drN nq
            have hb' := below_drewN hb nq
            have hcx' : (wr.drewN nq).cell? ⟨b, off + k, none⟩ = some (.int .i64 x) := hcx
            clear ho hb hcx
            generalize wr.drewN nq = wq at *
            have hbw : b < wq.heap.size := Nat.lt_of_lt_of_le hbl hb'.size
            have e1 : (m : Int) + 1 ≤ (c' : Int) := by omega
            have e2 : (m : Int) + 1 ≤ (k : Int) := by omega
            have e3 : (0 : Int) ≤ (m : Int) + 1 := by omega
            have e4 : ((m : Int) + 1).toNat = m + 1 := by omega
            by_cases hcJ : c' = m + 1
            · obtain rfl : k = m + 1 := by omega
              subst hcJ
              have e7 : (m : Int) + 1 < (n : Int) := by omega
              have hq0 : wq.heap.size ≤ wq.heap.size := Nat.le_refl _
              have hz0 : ([] : List Int).length ≤ 16777216 := by simp
              have rT := Lib.hid (ho'.rd.take (k := m + 1) (by omega))
              have rD : Hid (Rd wq (some ⟨g, 0, none⟩) 0 (P.drop (m + 1))) := by rw [List.drop_eq_nil_of_le (by rw [HPL.out]; exact Nat.le_refl _)]; exact Rd.nil_ _ _
              go_region_law (first | (refine step_app2 wq (c2 := m + 1) rfl (.tmp 31) (.tmp 34) rfl [] rfl ?_ (P.take (m + 1)) rfl ?_ ?_ ?_ ?_; (· first | exact (Own.lit wq hq0 [] hz0).dr | exact ((Own.lit wq hq0 [] hz0).al _).dr | exact lit_second wq _); (· first | exact (rT.out.al _).dr | exact ((rT.out.al _).al _).dr); (· first | exact (below_alloc (Below.refl _ _) _).drew | exact (below_alloc (below_alloc (Below.refl _ _) _) _).drew); (· first | omega | (simp; done) | (simp; omega)); intro A1 c1 w1 o1 b1 g1; simp only [Nat.zero_add, List.nil_append] at o1; (first | have q1 := lit_after wq w1 x g1 | have q1 := lit_ahead wq w1 x g1 | skip); have hcx1 := (b1.cell (p := ⟨b, off + (m + 1), none⟩) hbw).trans hcx'; clear g1) | (refine step_app2 wq (c2 := 1) rfl (.tmp 35) (.tmp 40) rfl (P.take (m + 1)) rfl ?_ [x] rfl ?_ ?_ ?_ ?_; (· first | exact o1 | exact o1.al _ | exact o1.dr | exact (o1.al _).dr); (· first | exact q1 | exact q1.dr | exact rd_one _ _ | exact (rd_one _ _).dr); (· first | exact b1 | exact b1.drew | exact below_alloc b1 _ | exact (below_alloc b1 _).drew); (· first | omega | (simp; done) | (simp; omega)); intro A2 c2 w2 o2 b2 g2; clear g2) | (refine step_app2 wq (c2 := 0) rfl (.tmp 41) (.tmp 44) rfl (P.take (m + 1) ++ [x]) rfl ?_ (P.drop (m + 1)) rfl ?_ ?_ ?_ ?_; (· first | exact o2 | exact o2.dr); (· first | exact rD.out.same b2 | exact (rD.out.same b2).dr); (· first | exact b2 | exact b2.drew); (· first | omega | (simp; done) | (simp; omega)); intro A3 c3 w3 o3 b3 g3; clear g3))
              all_goals
                have o4 := o3.as (n := (m + 1) + 1) (B' := w.heap.size) (by omega) (by simpa using ins_list HP.out EX.out HSTOP.out) hb'.size
                have b4 := hb'.trans (b3.mono hb'.size)
                obtain ⟨g3, rfl, _, _⟩ := o3.form (by omega)
                have HO := Lib.hid o4
                clear o4 o3 b3 ho' hcx'
                go_wp2
                go_roundw
                case rel => first | exact ⟨(m + 1) + 1, g3, c3, by omega, sl_eq (by omega), by go_num, HO.out, b4⟩ | ((repeat apply Exists.intro); exact ⟨⟨(m + 1) + 1, g3, c3, by omega, sl_eq (by omega), by go_num, HO.out, b4⟩, rfl⟩)
                case measure => simp [intOf]; omega
            · have e6 : ¬ (c' = m + 1) := hcJ
              have e5 : ¬ (m + 1 = c') := fun e => hcJ e.symm
              have hq0 : wq.heap.size ≤ wq.heap.size := Nat.le_refl _
              have hz0 : ([] : List Int).length ≤ 16777216 := by simp
              have rT := Lib.hid (ho'.rd.take (k := m + 1) (by omega))
              have rD : Hid (Rd wq (some ⟨g, m + 1, none⟩) (k - (m + 1)) (P.drop (m + 1))) := by have := ho'.rd.drop (k := m + 1) (by omega); rw [Nat.zero_add] at this; exact this
              go_region_law (first | (refine step_app2 wq (c2 := c') rfl (.tmp 31) (.tmp 34) rfl [] rfl ?_ (P.take (m + 1)) rfl ?_ ?_ ?_ ?_; (· first | exact (Own.lit wq hq0 [] hz0).dr | exact ((Own.lit wq hq0 [] hz0).al _).dr | exact lit_second wq _); (· first | exact (rT.out.al _).dr | exact ((rT.out.al _).al _).dr); (· first | exact (below_alloc (Below.refl _ _) _).drew | exact (below_alloc (below_alloc (Below.refl _ _) _) _).drew); (· first | omega | (simp; done) | (simp; omega)); intro A1 c1 w1 o1 b1 g1; simp only [Nat.zero_add, List.nil_append] at o1; (first | have q1 := lit_after wq w1 x g1 | have q1 := lit_ahead wq w1 x g1 | skip); have hcx1 := (b1.cell (p := ⟨b, off + k, none⟩) hbw).trans hcx'; clear g1) | (refine step_app2 wq (c2 := 1) rfl (.tmp 35) (.tmp 40) rfl (P.take (m + 1)) rfl ?_ [x] rfl ?_ ?_ ?_ ?_; (· first | exact o1 | exact o1.al _ | exact o1.dr | exact (o1.al _).dr); (· first | exact q1 | exact q1.dr | exact rd_one _ _ | exact (rd_one _ _).dr); (· first | exact b1 | exact b1.drew | exact below_alloc b1 _ | exact (below_alloc b1 _).drew); (· first | omega | (simp; done) | (simp; omega)); intro A2 c2 w2 o2 b2 g2; clear g2) | (refine step_app2 wq (c2 := c' - (m + 1)) rfl (.tmp 41) (.tmp 44) rfl (P.take (m + 1) ++ [x]) rfl ?_ (P.drop (m + 1)) rfl ?_ ?_ ?_ ?_; (· first | exact o2 | exact o2.dr); (· first | exact rD.out.same b2 | exact (rD.out.same b2).dr); (· first | exact b2 | exact b2.drew); (· first | omega | (simp; done) | (simp; omega)); intro A3 c3 w3 o3 b3 g3; clear g3))
              all_goals
                have o4 := o3.as (n := k + 1) (B' := w.heap.size) (by omega) (by simpa using ins_list HP.out EX.out HSTOP.out) hb'.size
                have b4 := hb'.trans (b3.mono hb'.size)
                obtain ⟨g3, rfl, _, _⟩ := o3.form (by omega)
                have HO := Lib.hid o4
                clear o4 o3 b3 ho' hcx'
                go_wp2
                go_roundw
                case rel => first | exact ⟨k + 1, g3, c3, by omega, sl_eq (by omega), by go_num, HO.out, b4⟩ | ((repeat apply Exists.intro); exact ⟨⟨k + 1, g3, c3, by omega, sl_eq (by omega), by go_num, HO.out, b4⟩, rfl⟩)
                case measure => simp [intOf]; omega
    · go_wp2
      go_ret
      obtain rfl : k = n := by omega
      refine ⟨_, _, rfl, ?_, hb⟩
      unfold isort
      rw [HL.out]; exact ho
end Go.Proofs.Ytiadnbdefcimiaa
