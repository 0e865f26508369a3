/- The model's reading of terms: two terms in brackets, all of l10Read. -/
import Derived.Test.YtegpidlhhneilaaDoorTrmR
namespace Go.Proofs.YtegpidlhhneilaaDoor
open Go.RowKit Go.Sort Go.Lib
theorem new_four (W : World) (b : Nat) (a c d e : Value) (T : TypeId) (h : b = W.heap.size) : (W.alloc (.cells #[a, c, d, e] T)).cell? ⟨b, 0, none⟩ = some a ∧ (W.alloc (.cells #[a, c, d, e] T)).cell? ⟨b, 1, none⟩ = some c ∧ (W.alloc (.cells #[a, c, d, e] T)).cell? ⟨b, 2, none⟩ = some d ∧ (W.alloc (.cells #[a, c, d, e] T)).cell? ⟨b, 3, none⟩ = some e := by subst h; exact ⟨by simp, by simp, by simp, by simp⟩
set_option maxRecDepth 100000 in
set_option maxHeartbeats 8000000 in
theorem l10Read_k0 (l : List UInt8) (hl : l.length ≤ 60) (f i : Nat) (w : World) (s : List UInt8) (hd : l.drop i = 40 :: s) (ih : ∀ j W, i + 1 ≤ j → RdC f l j W) (a : Tm) (r : List UInt8) (hr : rdT f s = some (a, 43 :: r)) (hr2 : rdT f r = none) : RdC (f + 1) l i w := by
  have hsz := bsB_size l
  obtain ⟨hil, hs, hget0⟩ := bsB_at hd
  have d1 : decide ((l.length : Int) ≤ (i : Int)) = false := decide_eq_false (by omega)
  have gi : (i : Int) < (l.length : Int) := by omega
  have hget2 : ∀ h, (((bsB l)[i]'h).toNat : Int) = 40 := fun h => by rw [hget0]; rfl
  have HI := Lib.hid (fun W => ih (i + 1) W (by omega))
  have ih2 := ih
  have HLS := Lib.hid (show s.length = l.length - (i + 1) by rw [hs, List.length_drop])
  have HL := Lib.hid (rd_len hr)
  unfold RdC at HI
  rw [← hs, show (((i + 1 : Nat)) : Int) = (i : Int) + 1 from rfl] at HI
  have HC : rdT (f + 1) (40 :: s) = jnT f s := by rw [rdT_cons, show letK 40 = none from rfl]; dsimp only; rw [if_pos rfl]
  unfold jnT at HC
  unfold RdC
  rw [hd]
  clear hget0 hd hs
  rw [hr] at HC HI
  rw [HC, show rdAnd (some (a, 43 :: r)) 43 = some (a, r) from rfl]
  dsimp only
  rw [hr2, show rdAnd none 41 = none from rfl]
  dsimp only
  have HN := Lib.hid (fun (W : World) s A n => show RdG w.heap.size W l none s A n 0 from rfl)
  clear hr HC ih
  go_enter Tryd.func21, Tryd.ntmps21
  go_wp2_with fail
  refine (HI.out _).mono ?_
  rintro e w2 ⟨⟨s', A', n', c', q, rfl, g2⟩, b2⟩
  have hs2 := b2.size
  simp only [World.size_alloc] at hs2 g2
  obtain ⟨u0, u1, u2, u3⟩ := old_three w (.int .u8 0) (.slice none 0 0) 29 (.cells #[] 29) (.cells #[.int .u8 110, .slice (some ⟨w.heap.size + 1, 0, none⟩) 0 0] 29)
  obtain ⟨u4, u5⟩ := new_two ((w.alloc (.cells #[.int .u8 0, .slice none 0 0] 29)).alloc (.cells #[] 29)) (w.heap.size + 1 + 1) (.int .u8 110) (.slice (some ⟨w.heap.size + 1, 0, none⟩) 0 0) 29 (by simp only [World.size_alloc])
  rw [← b2.cell (by simp only [World.size_alloc]; omega)] at u0 u1 u4 u5
  rw [← b2.frozen (by simp only [World.size_alloc]; omega)] at u2 u3
  have b3 : Below w.heap.size w w2 := Below.trans (show Below w.heap.size w _ by repeat (first | exact Below.refl _ _ | refine below_alloc ?_ _ | refine bel_set ?_ (by simp only [World.size_setCell, World.size_alloc]; omega) _ _ | refine bel_set ?_ (by omega) _ _ | refine Below.drew ?_)) (b2.mono (by simp only [World.size_alloc]; omega))
  clear b2
  have B3 := Lib.hid b3
  have HS2 := Lib.hid hs2
  clear b3
  have k0 : w.heap.size < w2.heap.size := by omega
  have k1 : w.heap.size ≠ w2.heap.size := by omega
  have k3 : w.heap.size + 1 + 1 < w2.heap.size := by omega
  have k4 : w.heap.size + 1 + 1 ≠ w2.heap.size := by omega
  have k5 : w.heap.size ≠ w.heap.size + 1 + 1 := by omega
  obtain ⟨g3, g4, g5, ga⟩ := g2
  obtain ⟨g6, gr, g7⟩ := bsB_at g5.symm
  have e1 : ((q : Int) == 0) = false := by simp; omega
  have e2 : decide ((l.length : Int) ≤ (q : Int)) = false := decide_eq_false (by omega)
  have hget3 : ∀ h, (((bsB l)[q]'h).toNat : Int) = 43 := fun h => by rw [g7]; rfl
  have g8 : (q : Int) < (l.length : Int) := by omega
  have e4 : decide (l.length ≤ q) = false := by simpa using e2
  have e5 : ¬ l.length ≤ q := by simpa using e4
  have hq := congrArg List.length g5
  rw [List.length_drop] at hq
  have HI2 := Lib.hid (fun W => ih2 (q + 1) W (by have h1 := HL.out; have h2 := HLS.out; omega))
  unfold RdC at HI2
  rw [← gr, hr2, show (((q + 1 : Nat)) : Int) = (q : Int) + 1 from rfl] at HI2
  have GA := Lib.hid ga
  clear ih2 g3 g4 g5 g7 gr ga hs2 hr2 hq
  go_wp2_with fail
  refine (HI2.out _).mono ?_
  rintro e w3 ⟨⟨s3, A3, n3, c3, q2, rfl, h2⟩, b4⟩
  have hs3 := b4.size
  have hs2 := HS2.out
  simp only [World.size_alloc] at hs3 h2
  obtain ⟨v4, v5⟩ := new_two w2 w2.heap.size (.int .u8 s') (.slice A' n' c') 29 rfl
  rw [← b4.cell (by simp only [World.size_alloc]; omega)] at v4 v5
  have y0 := (b4.cell (p := ⟨w.heap.size, 0, none⟩) (by simp only [World.size_alloc]; omega)).trans ((World.cell?_alloc_lt _ _ _ k0).trans u0)
  have y1 := (b4.cell (p := ⟨w.heap.size, 1, none⟩) (by simp only [World.size_alloc]; omega)).trans ((World.cell?_alloc_lt _ _ _ k0).trans u1)
  have y2 := (b4.frozen (p := ⟨w.heap.size, 0, none⟩) (by simp only [World.size_alloc]; omega)).trans ((World.frozen?_alloc_old _ _ _ k1).trans u2)
  have y3 := (b4.frozen (p := ⟨w.heap.size, 1, none⟩) (by simp only [World.size_alloc]; omega)).trans ((World.frozen?_alloc_old _ _ _ k1).trans u3)
  have y4 := (b4.cell (p := ⟨w.heap.size + 1 + 1, 0, none⟩) (by simp only [World.size_alloc]; omega)).trans ((World.cell?_alloc_lt _ _ _ k3).trans u4)
  have y5 := (b4.cell (p := ⟨w.heap.size + 1 + 1, 1, none⟩) (by simp only [World.size_alloc]; omega)).trans ((World.cell?_alloc_lt _ _ _ k3).trans u5)
  have b5 : Below w.heap.size w w3 := Below.trans (below_alloc B3.out _) (b4.mono (by simp only [World.size_alloc]; omega))
  have kp : KeepIn (w.heap.size + 1 + 1 + 1) w2 w3 := KeepIn.below (KeepIn.alloc (KeepIn.refl _ _) _) b4 (by simp only [World.size_alloc]; omega)
  have B5 := Lib.hid b5
  have KP := Lib.hid kp
  have HS3 := Lib.hid hs3
  have k6 : w.heap.size < w3.heap.size := by omega
  have k7 : w.heap.size ≠ w3.heap.size := by omega
  have k8 : w2.heap.size < w3.heap.size := by omega
  have k9 : w2.heap.size ≠ w3.heap.size := by omega
  have ka : w.heap.size + 1 + 1 < w3.heap.size := by omega
  have kb : w.heap.size ≠ w3.heap.size + 1 := by omega
  have kc : w.heap.size + 1 + 1 ≠ w3.heap.size := by omega
  clear u0 u1 u2 u3 u4 u5 b4 b5 hs3 hs2 kp
  obtain rfl : q2 = 0 := h2
  go_wp2_with fail
  refine bodyPost_ret (v := .tuple #[.agg #[.int .u8 110, .slice (some ⟨w.heap.size + 1, 0, none⟩) 0 0], .int .i64 0]) (by simp [results, Tryd.f21, go_sem, y0, y1, k6]) rfl ?_
  have b3 := B5.out
  refine ⟨⟨_, _, _, _, 0, rfl, HN.out _ _ _ _⟩, ?_⟩
  repeat (first | exact b3 | refine below_alloc ?_ _ | refine bel_set ?_ (by omega) _ _)
set_option maxRecDepth 100000 in
set_option maxHeartbeats 8000000 in
theorem l10Read_k1 (l : List UInt8) (hl : l.length ≤ 60) (f i : Nat) (w : World) (s : List UInt8) (hd : l.drop i = 40 :: s) (ih : ∀ j W, i + 1 ≤ j → RdC f l j W) (a e : Tm) (r : List UInt8) (hr : rdT f s = some (a, 43 :: r)) (hr2 : rdT f r = some (e, [])) : RdC (f + 1) l i w := by
  have hsz := bsB_size l
  obtain ⟨hil, hs, hget0⟩ := bsB_at hd
  have d1 : decide ((l.length : Int) ≤ (i : Int)) = false := decide_eq_false (by omega)
  have gi : (i : Int) < (l.length : Int) := by omega
  have hget2 : ∀ h, (((bsB l)[i]'h).toNat : Int) = 40 := fun h => by rw [hget0]; rfl
  have HI := Lib.hid (fun W => ih (i + 1) W (by omega))
  have ih2 := ih
  have HLS := Lib.hid (show s.length = l.length - (i + 1) by rw [hs, List.length_drop])
  have HL := Lib.hid (rd_len hr)
  unfold RdC at HI
  rw [← hs, show (((i + 1 : Nat)) : Int) = (i : Int) + 1 from rfl] at HI
  have HC : rdT (f + 1) (40 :: s) = jnT f s := by rw [rdT_cons, show letK 40 = none from rfl]; dsimp only; rw [if_pos rfl]
  unfold jnT at HC
  unfold RdC
  rw [hd]
  clear hget0 hd hs
  rw [hr] at HC HI
  rw [HC, show rdAnd (some (a, 43 :: r)) 43 = some (a, r) from rfl]
  dsimp only
  rw [hr2, show rdAnd (some (e, [])) 41 = none from rfl]
  dsimp only
  have HN := Lib.hid (fun (W : World) s A n => show RdG w.heap.size W l none s A n 0 from rfl)
  clear hr HC ih
  go_enter Tryd.func21, Tryd.ntmps21
  go_wp2_with fail
  refine (HI.out _).mono ?_
  rintro e w2 ⟨⟨s', A', n', c', q, rfl, g2⟩, b2⟩
  have hs2 := b2.size
  simp only [World.size_alloc] at hs2 g2
  obtain ⟨u0, u1, u2, u3⟩ := old_three w (.int .u8 0) (.slice none 0 0) 29 (.cells #[] 29) (.cells #[.int .u8 110, .slice (some ⟨w.heap.size + 1, 0, none⟩) 0 0] 29)
  obtain ⟨u4, u5⟩ := new_two ((w.alloc (.cells #[.int .u8 0, .slice none 0 0] 29)).alloc (.cells #[] 29)) (w.heap.size + 1 + 1) (.int .u8 110) (.slice (some ⟨w.heap.size + 1, 0, none⟩) 0 0) 29 (by simp only [World.size_alloc])
  rw [← b2.cell (by simp only [World.size_alloc]; omega)] at u0 u1 u4 u5
  rw [← b2.frozen (by simp only [World.size_alloc]; omega)] at u2 u3
  have b3 : Below w.heap.size w w2 := Below.trans (show Below w.heap.size w _ by repeat (first | exact Below.refl _ _ | refine below_alloc ?_ _ | refine bel_set ?_ (by simp only [World.size_setCell, World.size_alloc]; omega) _ _ | refine bel_set ?_ (by omega) _ _ | refine Below.drew ?_)) (b2.mono (by simp only [World.size_alloc]; omega))
  clear b2
  have B3 := Lib.hid b3
  have HS2 := Lib.hid hs2
  clear b3
  have k0 : w.heap.size < w2.heap.size := by omega
  have k1 : w.heap.size ≠ w2.heap.size := by omega
  have k3 : w.heap.size + 1 + 1 < w2.heap.size := by omega
  have k4 : w.heap.size + 1 + 1 ≠ w2.heap.size := by omega
  have k5 : w.heap.size ≠ w.heap.size + 1 + 1 := by omega
  obtain ⟨g3, g4, g5, ga⟩ := g2
  obtain ⟨g6, gr, g7⟩ := bsB_at g5.symm
  have e1 : ((q : Int) == 0) = false := by simp; omega
  have e2 : decide ((l.length : Int) ≤ (q : Int)) = false := decide_eq_false (by omega)
  have hget3 : ∀ h, (((bsB l)[q]'h).toNat : Int) = 43 := fun h => by rw [g7]; rfl
  have g8 : (q : Int) < (l.length : Int) := by omega
  have e4 : decide (l.length ≤ q) = false := by simpa using e2
  have e5 : ¬ l.length ≤ q := by simpa using e4
  have hq := congrArg List.length g5
  rw [List.length_drop] at hq
  have HI2 := Lib.hid (fun W => ih2 (q + 1) W (by have h1 := HL.out; have h2 := HLS.out; omega))
  unfold RdC at HI2
  rw [← gr, hr2, show (((q + 1 : Nat)) : Int) = (q : Int) + 1 from rfl] at HI2
  have GA := Lib.hid ga
  clear ih2 g3 g4 g5 g7 gr ga hs2 hr2 hq
  go_wp2_with fail
  refine (HI2.out _).mono ?_
  rintro e w3 ⟨⟨s3, A3, n3, c3, q2, rfl, h2⟩, b4⟩
  have hs3 := b4.size
  have hs2 := HS2.out
  simp only [World.size_alloc] at hs3 h2
  obtain ⟨v4, v5⟩ := new_two w2 w2.heap.size (.int .u8 s') (.slice A' n' c') 29 rfl
  rw [← b4.cell (by simp only [World.size_alloc]; omega)] at v4 v5
  have y0 := (b4.cell (p := ⟨w.heap.size, 0, none⟩) (by simp only [World.size_alloc]; omega)).trans ((World.cell?_alloc_lt _ _ _ k0).trans u0)
  have y1 := (b4.cell (p := ⟨w.heap.size, 1, none⟩) (by simp only [World.size_alloc]; omega)).trans ((World.cell?_alloc_lt _ _ _ k0).trans u1)
  have y2 := (b4.frozen (p := ⟨w.heap.size, 0, none⟩) (by simp only [World.size_alloc]; omega)).trans ((World.frozen?_alloc_old _ _ _ k1).trans u2)
  have y3 := (b4.frozen (p := ⟨w.heap.size, 1, none⟩) (by simp only [World.size_alloc]; omega)).trans ((World.frozen?_alloc_old _ _ _ k1).trans u3)
  have y4 := (b4.cell (p := ⟨w.heap.size + 1 + 1, 0, none⟩) (by simp only [World.size_alloc]; omega)).trans ((World.cell?_alloc_lt _ _ _ k3).trans u4)
  have y5 := (b4.cell (p := ⟨w.heap.size + 1 + 1, 1, none⟩) (by simp only [World.size_alloc]; omega)).trans ((World.cell?_alloc_lt _ _ _ k3).trans u5)
  have b5 : Below w.heap.size w w3 := Below.trans (below_alloc B3.out _) (b4.mono (by simp only [World.size_alloc]; omega))
  have kp : KeepIn (w.heap.size + 1 + 1 + 1) w2 w3 := KeepIn.below (KeepIn.alloc (KeepIn.refl _ _) _) b4 (by simp only [World.size_alloc]; omega)
  have B5 := Lib.hid b5
  have KP := Lib.hid kp
  have HS3 := Lib.hid hs3
  have k6 : w.heap.size < w3.heap.size := by omega
  have k7 : w.heap.size ≠ w3.heap.size := by omega
  have k8 : w2.heap.size < w3.heap.size := by omega
  have k9 : w2.heap.size ≠ w3.heap.size := by omega
  have ka : w.heap.size + 1 + 1 < w3.heap.size := by omega
  have kb : w.heap.size ≠ w3.heap.size + 1 := by omega
  have kc : w.heap.size + 1 + 1 ≠ w3.heap.size := by omega
  clear u0 u1 u2 u3 u4 u5 b4 b5 hs3 hs2 kp
  obtain ⟨g3, g4, g5, -⟩ := h2
  have f1 : ((q2 : Int) == 0) = false := by simp; omega
  have f2 : decide ((l.length : Int) ≤ (q2 : Int)) = true := by
    have := congrArg List.length g5
    simp at this
    exact decide_eq_true (by omega)
  have f4 : decide (l.length ≤ q2) = true := by simpa using f2
  have f5 : l.length ≤ q2 := by simpa using f4
  clear g3 g4 g5
  go_wp2_with fail
  refine bodyPost_ret (v := .tuple #[.agg #[.int .u8 110, .slice (some ⟨w.heap.size + 1, 0, none⟩) 0 0], .int .i64 0]) (by simp [results, Tryd.f21, go_sem, y0, y1, k6]) rfl ?_
  have b3 := B5.out
  refine ⟨⟨_, _, _, _, 0, rfl, HN.out _ _ _ _⟩, ?_⟩
  repeat (first | exact b3 | refine below_alloc ?_ _ | refine bel_set ?_ (by omega) _ _)
set_option maxRecDepth 100000 in
set_option maxHeartbeats 8000000 in
theorem l10Read_k2 (l : List UInt8) (hl : l.length ≤ 60) (f i : Nat) (w : World) (s : List UInt8) (hd : l.drop i = 40 :: s) (ih : ∀ j W, i + 1 ≤ j → RdC f l j W) (a e : Tm) (m : UInt8) (r r2 : List UInt8) (hr : rdT f s = some (a, 43 :: r)) (hr2 : rdT f r = some (e, m :: r2)) (hm : m ≠ 41) : RdC (f + 1) l i w := by
  have hsz := bsB_size l
  obtain ⟨hil, hs, hget0⟩ := bsB_at hd
  have d1 : decide ((l.length : Int) ≤ (i : Int)) = false := decide_eq_false (by omega)
  have gi : (i : Int) < (l.length : Int) := by omega
  have hget2 : ∀ h, (((bsB l)[i]'h).toNat : Int) = 40 := fun h => by rw [hget0]; rfl
  have HI := Lib.hid (fun W => ih (i + 1) W (by omega))
  have ih2 := ih
  have HLS := Lib.hid (show s.length = l.length - (i + 1) by rw [hs, List.length_drop])
  have HL := Lib.hid (rd_len hr)
  unfold RdC at HI
  rw [← hs, show (((i + 1 : Nat)) : Int) = (i : Int) + 1 from rfl] at HI
  have HC : rdT (f + 1) (40 :: s) = jnT f s := by rw [rdT_cons, show letK 40 = none from rfl]; dsimp only; rw [if_pos rfl]
  unfold jnT at HC
  unfold RdC
  rw [hd]
  clear hget0 hd hs
  rw [hr] at HC HI
  rw [HC, show rdAnd (some (a, 43 :: r)) 43 = some (a, r) from rfl]
  dsimp only
  rw [hr2, show rdAnd (some (e, m :: r2)) 41 = none by unfold rdAnd; dsimp only; rw [if_neg hm]]
  dsimp only
  have HN := Lib.hid (fun (W : World) s A n => show RdG w.heap.size W l none s A n 0 from rfl)
  clear hr HC ih
  go_enter Tryd.func21, Tryd.ntmps21
  go_wp2_with fail
  refine (HI.out _).mono ?_
  rintro e w2 ⟨⟨s', A', n', c', q, rfl, g2⟩, b2⟩
  have hs2 := b2.size
  simp only [World.size_alloc] at hs2 g2
  obtain ⟨u0, u1, u2, u3⟩ := old_three w (.int .u8 0) (.slice none 0 0) 29 (.cells #[] 29) (.cells #[.int .u8 110, .slice (some ⟨w.heap.size + 1, 0, none⟩) 0 0] 29)
  obtain ⟨u4, u5⟩ := new_two ((w.alloc (.cells #[.int .u8 0, .slice none 0 0] 29)).alloc (.cells #[] 29)) (w.heap.size + 1 + 1) (.int .u8 110) (.slice (some ⟨w.heap.size + 1, 0, none⟩) 0 0) 29 (by simp only [World.size_alloc])
  rw [← b2.cell (by simp only [World.size_alloc]; omega)] at u0 u1 u4 u5
  rw [← b2.frozen (by simp only [World.size_alloc]; omega)] at u2 u3
  have b3 : Below w.heap.size w w2 := Below.trans (show Below w.heap.size w _ by repeat (first | exact Below.refl _ _ | refine below_alloc ?_ _ | refine bel_set ?_ (by simp only [World.size_setCell, World.size_alloc]; omega) _ _ | refine bel_set ?_ (by omega) _ _ | refine Below.drew ?_)) (b2.mono (by simp only [World.size_alloc]; omega))
  clear b2
  have B3 := Lib.hid b3
  have HS2 := Lib.hid hs2
  clear b3
  have k0 : w.heap.size < w2.heap.size := by omega
  have k1 : w.heap.size ≠ w2.heap.size := by omega
  have k3 : w.heap.size + 1 + 1 < w2.heap.size := by omega
  have k4 : w.heap.size + 1 + 1 ≠ w2.heap.size := by omega
  have k5 : w.heap.size ≠ w.heap.size + 1 + 1 := by omega
  obtain ⟨g3, g4, g5, ga⟩ := g2
  obtain ⟨g6, gr, g7⟩ := bsB_at g5.symm
  have e1 : ((q : Int) == 0) = false := by simp; omega
  have e2 : decide ((l.length : Int) ≤ (q : Int)) = false := decide_eq_false (by omega)
  have hget3 : ∀ h, (((bsB l)[q]'h).toNat : Int) = 43 := fun h => by rw [g7]; rfl
  have g8 : (q : Int) < (l.length : Int) := by omega
  have e4 : decide (l.length ≤ q) = false := by simpa using e2
  have e5 : ¬ l.length ≤ q := by simpa using e4
  have hq := congrArg List.length g5
  rw [List.length_drop] at hq
  have HI2 := Lib.hid (fun W => ih2 (q + 1) W (by have h1 := HL.out; have h2 := HLS.out; omega))
  unfold RdC at HI2
  rw [← gr, hr2, show (((q + 1 : Nat)) : Int) = (q : Int) + 1 from rfl] at HI2
  have GA := Lib.hid ga
  clear ih2 g3 g4 g5 g7 gr ga hs2 hr2 hq
  go_wp2_with fail
  refine (HI2.out _).mono ?_
  rintro e w3 ⟨⟨s3, A3, n3, c3, q2, rfl, h2⟩, b4⟩
  have hs3 := b4.size
  have hs2 := HS2.out
  simp only [World.size_alloc] at hs3 h2
  obtain ⟨v4, v5⟩ := new_two w2 w2.heap.size (.int .u8 s') (.slice A' n' c') 29 rfl
  rw [← b4.cell (by simp only [World.size_alloc]; omega)] at v4 v5
  have y0 := (b4.cell (p := ⟨w.heap.size, 0, none⟩) (by simp only [World.size_alloc]; omega)).trans ((World.cell?_alloc_lt _ _ _ k0).trans u0)
  have y1 := (b4.cell (p := ⟨w.heap.size, 1, none⟩) (by simp only [World.size_alloc]; omega)).trans ((World.cell?_alloc_lt _ _ _ k0).trans u1)
  have y2 := (b4.frozen (p := ⟨w.heap.size, 0, none⟩) (by simp only [World.size_alloc]; omega)).trans ((World.frozen?_alloc_old _ _ _ k1).trans u2)
  have y3 := (b4.frozen (p := ⟨w.heap.size, 1, none⟩) (by simp only [World.size_alloc]; omega)).trans ((World.frozen?_alloc_old _ _ _ k1).trans u3)
  have y4 := (b4.cell (p := ⟨w.heap.size + 1 + 1, 0, none⟩) (by simp only [World.size_alloc]; omega)).trans ((World.cell?_alloc_lt _ _ _ k3).trans u4)
  have y5 := (b4.cell (p := ⟨w.heap.size + 1 + 1, 1, none⟩) (by simp only [World.size_alloc]; omega)).trans ((World.cell?_alloc_lt _ _ _ k3).trans u5)
  have b5 : Below w.heap.size w w3 := Below.trans (below_alloc B3.out _) (b4.mono (by simp only [World.size_alloc]; omega))
  have kp : KeepIn (w.heap.size + 1 + 1 + 1) w2 w3 := KeepIn.below (KeepIn.alloc (KeepIn.refl _ _) _) b4 (by simp only [World.size_alloc]; omega)
  have B5 := Lib.hid b5
  have KP := Lib.hid kp
  have HS3 := Lib.hid hs3
  have k6 : w.heap.size < w3.heap.size := by omega
  have k7 : w.heap.size ≠ w3.heap.size := by omega
  have k8 : w2.heap.size < w3.heap.size := by omega
  have k9 : w2.heap.size ≠ w3.heap.size := by omega
  have ka : w.heap.size + 1 + 1 < w3.heap.size := by omega
  have kb : w.heap.size ≠ w3.heap.size + 1 := by omega
  have kc : w.heap.size + 1 + 1 ≠ w3.heap.size := by omega
  clear u0 u1 u2 u3 u4 u5 b4 b5 hs3 hs2 kp
  obtain ⟨g3, g4, g5, -⟩ := h2
  obtain ⟨ga6, -, g7⟩ := bsB_at g5.symm
  have f1 : ((q2 : Int) == 0) = false := by simp; omega
  have f2 : decide ((l.length : Int) ≤ (q2 : Int)) = false := decide_eq_false (by omega)
  have f3 : ((m.toNat : Int) == 41) = false := u8_ne (k := 41) (by omega) hm
  obtain ⟨y, ey⟩ : ∃ y : Int, y = (m.toNat : Int) := ⟨_, rfl⟩
  have hget4 : ∀ h, (((bsB l)[q2]'h).toNat : Int) = y := fun h => by rw [g7]; exact ey.symm
  rw [← ey] at f3
  have g9 : (q2 : Int) < (l.length : Int) := by omega
  have f4 : decide (l.length ≤ q2) = false := by simpa using f2
  have f5 : ¬ l.length ≤ q2 := by simpa using f4
  clear g3 g4 g5 g7 ey
  go_wp2_with fail
  refine bodyPost_ret (v := .tuple #[.agg #[.int .u8 110, .slice (some ⟨w.heap.size + 1, 0, none⟩) 0 0], .int .i64 0]) (by simp [results, Tryd.f21, go_sem, y0, y1, k6]) rfl ?_
  have b3 := B5.out
  refine ⟨⟨_, _, _, _, 0, rfl, HN.out _ _ _ _⟩, ?_⟩
  repeat (first | exact b3 | refine below_alloc ?_ _ | refine bel_set ?_ (by omega) _ _)
set_option maxRecDepth 100000 in
set_option maxHeartbeats 8000000 in
theorem l10Read_k3 (l : List UInt8) (hl : l.length ≤ 60) (f i : Nat) (w : World) (s : List UInt8) (hd : l.drop i = 40 :: s) (ih : ∀ j W, i + 1 ≤ j → RdC f l j W) (a e : Tm) (r r2 : List UInt8) (hr : rdT f s = some (a, 43 :: r)) (hr2 : rdT f r = some (e, 41 :: r2)) : RdC (f + 1) l i w := by
  have hsz := bsB_size l
  obtain ⟨hil, hs, hget0⟩ := bsB_at hd
  have d1 : decide ((l.length : Int) ≤ (i : Int)) = false := decide_eq_false (by omega)
  have gi : (i : Int) < (l.length : Int) := by omega
  have hget2 : ∀ h, (((bsB l)[i]'h).toNat : Int) = 40 := fun h => by rw [hget0]; rfl
  have HI := Lib.hid (fun W => ih (i + 1) W (by omega))
  have ih2 := ih
  have HLS := Lib.hid (show s.length = l.length - (i + 1) by rw [hs, List.length_drop])
  have HL := Lib.hid (rd_len hr)
  unfold RdC at HI
  rw [← hs, show (((i + 1 : Nat)) : Int) = (i : Int) + 1 from rfl] at HI
  have HC : rdT (f + 1) (40 :: s) = jnT f s := by rw [rdT_cons, show letK 40 = none from rfl]; dsimp only; rw [if_pos rfl]
  unfold jnT at HC
  unfold RdC
  rw [hd]
  clear hget0 hd hs
  rw [hr] at HC HI
  rw [HC, show rdAnd (some (a, 43 :: r)) 43 = some (a, r) from rfl]
  dsimp only
  rw [hr2, show rdAnd (some (e, 41 :: r2)) 41 = some (e, r2) from rfl]
  dsimp only
  clear hr HC ih
  go_enter Tryd.func21, Tryd.ntmps21
  go_wp2_with fail
  refine (HI.out _).mono ?_
  rintro e w2 ⟨⟨s', A', n', c', q, rfl, g2⟩, b2⟩
  have hs2 := b2.size
  simp only [World.size_alloc] at hs2 g2
  obtain ⟨u0, u1, u2, u3⟩ := old_three w (.int .u8 0) (.slice none 0 0) 29 (.cells #[] 29) (.cells #[.int .u8 110, .slice (some ⟨w.heap.size + 1, 0, none⟩) 0 0] 29)
  obtain ⟨u4, u5⟩ := new_two ((w.alloc (.cells #[.int .u8 0, .slice none 0 0] 29)).alloc (.cells #[] 29)) (w.heap.size + 1 + 1) (.int .u8 110) (.slice (some ⟨w.heap.size + 1, 0, none⟩) 0 0) 29 (by simp only [World.size_alloc])
  rw [← b2.cell (by simp only [World.size_alloc]; omega)] at u0 u1 u4 u5
  rw [← b2.frozen (by simp only [World.size_alloc]; omega)] at u2 u3
  have b3 : Below w.heap.size w w2 := Below.trans (show Below w.heap.size w _ by repeat (first | exact Below.refl _ _ | refine below_alloc ?_ _ | refine bel_set ?_ (by simp only [World.size_setCell, World.size_alloc]; omega) _ _ | refine bel_set ?_ (by omega) _ _ | refine Below.drew ?_)) (b2.mono (by simp only [World.size_alloc]; omega))
  clear b2
  have B3 := Lib.hid b3
  have HS2 := Lib.hid hs2
  clear b3
  have k0 : w.heap.size < w2.heap.size := by omega
  have k1 : w.heap.size ≠ w2.heap.size := by omega
  have k3 : w.heap.size + 1 + 1 < w2.heap.size := by omega
  have k4 : w.heap.size + 1 + 1 ≠ w2.heap.size := by omega
  have k5 : w.heap.size ≠ w.heap.size + 1 + 1 := by omega
  obtain ⟨g3, g4, g5, ga⟩ := g2
  obtain ⟨g6, gr, g7⟩ := bsB_at g5.symm
  have e1 : ((q : Int) == 0) = false := by simp; omega
  have e2 : decide ((l.length : Int) ≤ (q : Int)) = false := decide_eq_false (by omega)
  have hget3 : ∀ h, (((bsB l)[q]'h).toNat : Int) = 43 := fun h => by rw [g7]; rfl
  have g8 : (q : Int) < (l.length : Int) := by omega
  have e4 : decide (l.length ≤ q) = false := by simpa using e2
  have e5 : ¬ l.length ≤ q := by simpa using e4
  have hq := congrArg List.length g5
  rw [List.length_drop] at hq
  have HI2 := Lib.hid (fun W => ih2 (q + 1) W (by have h1 := HL.out; have h2 := HLS.out; omega))
  unfold RdC at HI2
  rw [← gr, hr2, show (((q + 1 : Nat)) : Int) = (q : Int) + 1 from rfl] at HI2
  have GA := Lib.hid ga
  clear ih2 g3 g4 g5 g7 gr ga hs2 hr2 hq
  go_wp2_with fail
  refine (HI2.out _).mono ?_
  rintro e w3 ⟨⟨s3, A3, n3, c3, q2, rfl, h2⟩, b4⟩
  have hs3 := b4.size
  have hs2 := HS2.out
  simp only [World.size_alloc] at hs3 h2
  obtain ⟨v4, v5⟩ := new_two w2 w2.heap.size (.int .u8 s') (.slice A' n' c') 29 rfl
  rw [← b4.cell (by simp only [World.size_alloc]; omega)] at v4 v5
  have y0 := (b4.cell (p := ⟨w.heap.size, 0, none⟩) (by simp only [World.size_alloc]; omega)).trans ((World.cell?_alloc_lt _ _ _ k0).trans u0)
  have y1 := (b4.cell (p := ⟨w.heap.size, 1, none⟩) (by simp only [World.size_alloc]; omega)).trans ((World.cell?_alloc_lt _ _ _ k0).trans u1)
  have y2 := (b4.frozen (p := ⟨w.heap.size, 0, none⟩) (by simp only [World.size_alloc]; omega)).trans ((World.frozen?_alloc_old _ _ _ k1).trans u2)
  have y3 := (b4.frozen (p := ⟨w.heap.size, 1, none⟩) (by simp only [World.size_alloc]; omega)).trans ((World.frozen?_alloc_old _ _ _ k1).trans u3)
  have y4 := (b4.cell (p := ⟨w.heap.size + 1 + 1, 0, none⟩) (by simp only [World.size_alloc]; omega)).trans ((World.cell?_alloc_lt _ _ _ k3).trans u4)
  have y5 := (b4.cell (p := ⟨w.heap.size + 1 + 1, 1, none⟩) (by simp only [World.size_alloc]; omega)).trans ((World.cell?_alloc_lt _ _ _ k3).trans u5)
  have b5 : Below w.heap.size w w3 := Below.trans (below_alloc B3.out _) (b4.mono (by simp only [World.size_alloc]; omega))
  have kp : KeepIn (w.heap.size + 1 + 1 + 1) w2 w3 := KeepIn.below (KeepIn.alloc (KeepIn.refl _ _) _) b4 (by simp only [World.size_alloc]; omega)
  have B5 := Lib.hid b5
  have KP := Lib.hid kp
  have HS3 := Lib.hid hs3
  have k6 : w.heap.size < w3.heap.size := by omega
  have k7 : w.heap.size ≠ w3.heap.size := by omega
  have k8 : w2.heap.size < w3.heap.size := by omega
  have k9 : w2.heap.size ≠ w3.heap.size := by omega
  have ka : w.heap.size + 1 + 1 < w3.heap.size := by omega
  have kb : w.heap.size ≠ w3.heap.size + 1 := by omega
  have kc : w.heap.size + 1 + 1 ≠ w3.heap.size := by omega
  clear u0 u1 u2 u3 u4 u5 b4 b5 hs3 hs2 kp
  obtain ⟨g3, g4, g5, gb⟩ := h2
  obtain ⟨ga6, gr2, g7⟩ := bsB_at g5.symm
  have GB := Lib.hid gb
  have GR := Lib.hid gr2
  have f1 : ((q2 : Int) == 0) = false := by simp; omega
  have f2 : decide ((l.length : Int) ≤ (q2 : Int)) = false := decide_eq_false (by omega)
  have hget4 : ∀ h, (((bsB l)[q2]'h).toNat : Int) = 41 := fun h => by rw [g7]; rfl
  have g9 : (q2 : Int) < (l.length : Int) := by omega
  have f4 : decide (l.length ≤ q2) = false := by simpa using f2
  have f5 : ¬ l.length ≤ q2 := by simpa using f4
  clear g3 g4 g5 g7 gb gr2
  go_wp2_with fail
  refine bodyPost_ret (v := .tuple #[.agg #[.int .u8 43, .slice (some ⟨w3.heap.size + 1, 0, none⟩) 2 2], .int .i64 ((q2 + 1 : Nat) : Int)]) (by simp [results, Tryd.f21, go_sem, y0, y1, k6]) rfl ?_
  have b3 := B5.out
  have hs3 := HS3.out
  refine ⟨⟨_, _, _, _, q2 + 1, rfl, ⟨by omega, by omega, GR.out, ⟨rfl, rfl, w3.heap.size + 1, s', A', n', c', s3, A3, n3, c3, rfl, by omega, ?_, ?_, ?_, ?_, ?_, ?_, ?_⟩⟩⟩, ?_⟩
  · simp only [World.size_setCell, World.size_alloc]; omega
  · exact (new_four _ _ _ _ _ _ _ (by simp only [World.size_setCell, World.size_alloc])).1
  · exact (new_four _ _ _ _ _ _ _ (by simp only [World.size_setCell, World.size_alloc])).2.1
  · exact (new_four _ _ _ _ _ _ _ (by simp only [World.size_setCell, World.size_alloc])).2.2.1
  · exact (new_four _ _ _ _ _ _ _ (by simp only [World.size_setCell, World.size_alloc])).2.2.2
  · refine GA.out.keep (lo := w.heap.size + 1 + 1 + 1) ?_ (by omega)
    have kp := KP.out
    repeat (first | exact kp | refine KeepIn.alloc ?_ _ | refine KeepIn.set ?_ (by left; omega) _ _)
  · refine GB.out.keep (lo := w2.heap.size + 1) ?_ (by omega)
    repeat (first | exact KeepIn.refl _ _ | refine KeepIn.alloc ?_ _ | refine KeepIn.set ?_ (by first | (left; omega) | (right; omega)) _ _)
  · repeat (first | exact b3 | refine below_alloc ?_ _ | refine bel_set ?_ (by omega) _ _)
/-- Reading from every place on. -/
theorem l10Read_any (l : List UInt8) (hl : l.length ≤ 60) : ∀ (f i : Nat) (w : World), l.length - i ≤ f → RdC f l i w := by
  intro f
  induction f with
  | zero => intro i w h; exact l10Read_end l 0 i w (by omega) hl
  | succ f ih =>
    intro i w h
    cases hd : l.drop i with
    | nil =>
      have := congrArg List.length hd
      simp at this
      exact l10Read_end l (f + 1) i w (by omega) hl
    | cons c s =>
      have hil := (bsB_at hd).1
      have hs := (bsB_at hd).2.1
      have ih2 : ∀ j W, i + 1 ≤ j → RdC f l j W := fun j W hj => ih j W (by omega)
      cases hk : letK c with
      | some k => exact l10Read_let l hl f i w c s hd k hk
      | none =>
        by_cases h40 : c = 40
        · subst h40
          cases hr : rdT f s with
          | none => exact l10Read_j0 l hl f i w s hd ih2 hr
          | some y =>
            obtain ⟨a, r⟩ := y
            cases r with
            | nil => exact l10Read_j1 l hl f i w s hd ih2 a hr
            | cons m r =>
              by_cases hm : m = 43
              · subst hm
                cases hr2 : rdT f r with
                | none => exact l10Read_k0 l hl f i w s hd ih2 a r hr hr2
                | some y =>
                  obtain ⟨e, r2⟩ := y
                  cases r2 with
                  | nil => exact l10Read_k1 l hl f i w s hd ih2 a e r hr hr2
                  | cons m2 r2 =>
                    by_cases hm2 : m2 = 41
                    · subst hm2; exact l10Read_k3 l hl f i w s hd ih2 a e r r2 hr hr2
                    · exact l10Read_k2 l hl f i w s hd ih2 a e m2 r r2 hr hr2 hm2
              · exact l10Read_j2 l hl f i w s hd ih2 a m r hr hm
        · by_cases h45 : c = 45
          · subst h45; exact l10Read_back l hl f i w s hd fun W => ih2 (i + 1) W (by omega)
          · by_cases h64 : c = 64
            · subst h64; exact l10Read_turn l hl f i w s hd fun W => ih2 (i + 1) W (by omega)
            · by_cases hdg : 50 ≤ c ∧ c ≤ 57
              · exact l10Read_digit l hl f i w c hk h40 hdg s hd fun W => ih2 (i + 1) W (by omega)
              · exact l10Read_other l hl f i w c hk h40 (fun t => by unfold sgnT; rw [if_neg h45, if_neg h64, if_neg hdg]) s hd
end Go.Proofs.YtegpidlhhneilaaDoor
