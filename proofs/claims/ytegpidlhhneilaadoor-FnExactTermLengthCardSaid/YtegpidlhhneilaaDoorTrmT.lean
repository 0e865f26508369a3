/- The model's l10Long, l10Of, l10Short. -/
import Derived.Test.YtegpidlhhneilaaDoorTrmS
namespace Go.Proofs.YtegpidlhhneilaaDoor
open Go.RowKit Go.Sort Go.Lib
theorem cell_keep {w w' : World} {b o B : Nat} {v : Value} (hlt : b < w.heap.size) (hB : w.heap.size ≤ B) (hb : Below B w w') (h : w.cell? ⟨b, o, none⟩ = some v) : w'.cell? ⟨b, o, none⟩ = some v := (hb.cell (p := ⟨b, o, none⟩) (by show b < B; omega)).trans h
def LngC (t : Tm) : Prop := ∀ (lo : Nat) (s : Int) (A : Option Addr) (n c : Nat) (w : World), TmI lo w t s A n → Calls Tryd.prog 16 #[.agg #[.int .u8 s, .slice A n c]] w fun e w' => e = .returned (.int .i64 (capT 1000 t : Nat)) ∧ Below w.heap.size w w'
set_option maxRecDepth 100000 in
set_option maxHeartbeats 4000000 in
theorem lng_let (k : Nat) (hk : k < 4) : LngC (.l k) := by
  intro lo s A n c w h
  have hs : s = ((letB k).toNat : Int) := h
  have h1 : s = 101 ∨ s = 110 ∨ s = 119 ∨ s = 115 := by
    match k, hk with
    | 0, _ => left; exact hs
    | 1, _ => right; left; exact hs
    | 2, _ => right; right; left; exact hs
    | 3, _ => right; right; right; exact hs
  have hc : capT 1000 (.l k) = 1 := rfl
  rw [hc]
  clear hs hc h hk
  rcases h1 with rfl | rfl | rfl | rfl
  all_goals
    go_enter Tryd.func16, Tryd.ntmps16
    go_wp2_with fail
    go_ret
    exact ⟨rfl, below_alloc (Below.refl _ _) _⟩
theorem tmi_keep {lo : Nat} {w w' : World} {t : Tm} {s : Int} {A : Option Addr} {n : Nat} (h : TmI lo w t s A n) (hb : Below w.heap.size w w') : TmI lo w' t s A n := h.keep (KeepIn.below (KeepIn.refl _ _) hb (Nat.le_refl _)) (Nat.le_refl _)
set_option maxRecDepth 100000 in
set_option maxHeartbeats 4000000 in
theorem lng_sgn (t : Tm) (z : Int) (hz : z = 45 ∨ z = 64) (ih : LngC t) (lo b : Nat) (c : Nat) (w : World) (s' : Int) (A' : Option Addr) (n' c' : Nat) (hb : b < w.heap.size) (h0 : w.cell? ⟨b, 0, none⟩ = some (.int .u8 s')) (h1 : w.cell? ⟨b, 1, none⟩ = some (.slice A' n' c')) (ht : TmI lo w t s' A' n') :
    Calls Tryd.prog 16 #[.agg #[.int .u8 z, .slice (some ⟨b, 0, none⟩) 1 c]] w fun e w' => e = .returned (.int .i64 (capT 1000 t : Nat)) ∧ Below w.heap.size w w' := by
  have IH := Lib.hid (fun W (hW : Below w.heap.size w W) => ih lo s' A' n' c' W (tmi_keep ht hW))
  have k1 : w.heap.size ≠ b := by omega
  clear ih ht
  rcases hz with rfl | rfl
  all_goals
    go_enter Tryd.func16, Tryd.ntmps16
    go_wp2_with fail
    refine (IH.out _ (below_alloc (Below.refl _ _) _)).mono ?_
    rintro e w2 ⟨rfl, b2⟩
    go_wp2_with fail
    go_ret
    exact ⟨rfl, below_then (below_alloc (Below.refl _ _) _) b2⟩
set_option maxRecDepth 100000 in
set_option maxHeartbeats 4000000 in
theorem lng_rep (t : Tm) (d m : Nat) (hd : 2 ≤ d ∧ d ≤ 9) (hm : m = capT 1000 t) (hmb : m ≤ 1000) (ih : LngC t) (lo b : Nat) (c : Nat) (w : World) (s' : Int) (A' : Option Addr) (n' c' : Nat) (hb : b < w.heap.size) (h0 : w.cell? ⟨b, 0, none⟩ = some (.int .u8 s')) (h1 : w.cell? ⟨b, 1, none⟩ = some (.slice A' n' c')) (ht : TmI lo w t s' A' n') :
    Calls Tryd.prog 16 #[.agg #[.int .u8 ((d : Int) + 48), .slice (some ⟨b, 0, none⟩) 1 c]] w fun e w' => e = .returned (.int .i64 ((min (d * m) 1000 : Nat) : Int)) ∧ Below w.heap.size w w' := by
  have IH := Lib.hid (fun W (hW : Below w.heap.size w W) => ih lo s' A' n' c' W (tmi_keep ht hW))
  rw [← hm] at IH
  clear ih ht hm
  have q4 : ((d : Int) + 48 == 43) = false := by simp; omega
  have q5 : ((d : Int) + 48 == 45) = false := by simp; omega
  have q6 : ((d : Int) + 48 == 64) = false := by simp; omega
  have d3 : decide ((50 : Int) ≤ (d : Int) + 48) = true := decide_eq_true (by omega)
  have d4 : decide ((d : Int) + 48 ≤ 57) = true := decide_eq_true (by omega)
  refine (callsIn_wide (n := 5)).1 ?_
  refine callsIn_of_wp Tryd.func16 rfl trivial ?_ rfl
  simp only [Tryd.ntmps16, List.size_toArray, List.length_cons, List.length_nil, Nat.reduceAdd, Nat.reduceSub, Array.replicate_succ, Array.replicate_zero, List.push_toArray, List.append_toArray, List.nil_append, List.cons_append]
  gi_wp2_with fail
  have b1 : Below w.heap.size w (w.alloc (.cells #[.int .u8 ((d : Int) + 48), .slice (some ⟨b, 0, none⟩) 1 c] 29)) := below_alloc (Below.refl _ _) _
  have y0 : (w.alloc (.cells #[.int .u8 ((d : Int) + 48), .slice (some ⟨b, 0, none⟩) 1 c] 29)).cell? ⟨w.heap.size, 0, none⟩ = some (.int .u8 ((d : Int) + 48)) := by simp
  have y1 : (w.alloc (.cells #[.int .u8 ((d : Int) + 48), .slice (some ⟨b, 0, none⟩) 1 c] 29)).cell? ⟨w.heap.size, 1, none⟩ = some (.slice (some ⟨b, 0, none⟩) 1 c) := by simp
  have x0 := cell_keep hb (Nat.le_refl _) b1 h0
  have x1 := cell_keep hb (Nat.le_refl _) b1 h1
  have bT := fun W (h : Below (w.alloc (.cells #[.int .u8 ((d : Int) + 48), .slice (some ⟨b, 0, none⟩) 1 c] 29)).heap.size (w.alloc (.cells #[.int .u8 ((d : Int) + 48), .slice (some ⟨b, 0, none⟩) 1 c] 29)) W) => below_then b1 h
  generalize w.alloc (.cells #[.int .u8 ((d : Int) + 48), .slice (some ⟨b, 0, none⟩) 1 c] 29) = W1 at *
  generalize hB : w.heap.size = B at *
  have z0 := cell_regrown y0
  have z1 := cell_regrown y1
  have z2 := cell_regrown x0
  have z3 := cell_regrown x1
  have HRG := Lib.hid (show Rg W1 W1.drew from regrown_of_below (Below.refl _ _).drew)
  have q1 : IntKind.u8.wrap (d : Int) = (d : Int) := by rw [IntKind.wrap_u8]; omega
  have q2 : IntKind.i64.wrap (d : Int) = (d : Int) := wrap_is rfl (by omega) (by omega)
  have q3 : (d : Int) + 48 - 48 = (d : Int) := by omega
  have hmul : IntKind.i64.wrap ((d : Int) * m) = (d : Int) * m := by
    have h1 : d * m ≤ 9 * 1000 := Nat.mul_le_mul hd.2 hmb
    have h2 : ((d : Int) * m) = ((d * m : Nat) : Int) := by push_cast; rfl
    rw [h2]
    exact wrap_is rfl (by omega) (by omega)
  clear y0 y1 x0 x1 h0 h1 q4 q5 q6 d3 d4
  refine region_pick 11 [(true, 0), (true, 1), (true, 2), (true, 3), (true, 4), (true, 5), (true, 6), (true, 7), (false, 8), (false, 9), (false, 10), (false, 11)] (by kernel_rfl) (by kernel_rfl) (fun _ _ t _ _ h => by cases t <;> exact h) ?_
  simp only [pickOps, List.map_cons, List.map_nil, List.getD_cons_zero, List.getD_cons_succ]
  refine pick_read HRG.out (.pointer (some ⟨B, 0, none⟩)) rfl (fun _ => rfl) (by rintro _ ⟨⟨d, os⟩, rfl⟩; go_simp) ?_
  refine pick_read HRG.out (.int .u8 ((d : Int) + 48)) rfl (fun _ => rfl) (by rintro _ ⟨⟨d, os⟩, rfl⟩; go_simp) ?_
  refine pick_read HRG.out (.int .u8 d) rfl (fun _ => rfl) (by rintro _ ⟨⟨d, os⟩, rfl⟩; go_simp) ?_
  refine pick_read HRG.out (.int .i64 d) rfl (fun _ => rfl) (by rintro _ ⟨⟨d, os⟩, rfl⟩; go_simp) ?_
  refine pick_read HRG.out (.pointer (some ⟨B, 1, none⟩)) rfl (fun _ => rfl) (by rintro _ ⟨⟨d, os⟩, rfl⟩; go_simp) ?_
  refine pick_read HRG.out (.slice (some ⟨b, 0, none⟩) 1 c) rfl (fun _ => rfl) (by rintro _ ⟨⟨d, os⟩, rfl⟩; go_simp) ?_
  refine pick_read HRG.out (.pointer (some ⟨b, 0, none⟩)) rfl (fun _ => rfl) (by rintro _ ⟨⟨d, os⟩, rfl⟩; go_simp) ?_
  refine pick_read HRG.out (.agg #[.int .u8 s', .slice A' n' c']) rfl (fun _ => rfl) (by rintro _ ⟨⟨d, os⟩, rfl⟩; go_simp) ?_
  clear z0 z1 z2 z3
  refine pick_step (fun K hK => ?_)
  unfold wpStep
  go_simp
  refine ⟨trivial, (callsIn_wide.2 (IH.out _ b1.drew)).mono ?_⟩
  rintro e w2 ⟨rfl, b2⟩
  have d2 : Below W1.heap.size W1 w2 := (Below.refl _ _).drew.trans b2
  refine hK _ _ (fun _ => regrown_of_below d2) ?_
  have d9 : Below B w w2 := bT _ d2
  clear hK K b2
  refine pick_step (fun K hK => ?_)
  unfold wpStep
  go_simp
  refine hK _ _ (fun _ => regrown_of_below d2) ?_
  clear hK K
  refine pick_step (fun K hK => ?_)
  unfold wpStep
  go_simp
  refine hK _ _ (fun _ => regrown_of_below d2) ?_
  clear hK K
  refine pick_step (fun K hK => ?_)
  unfold wpStep
  go_simp
  refine hK _ _ (fun h => absurd h (by omega)) ?_
  clear hK K
  unfold wpPick
  gi_wp2_with fail
  go_ret
  exact ⟨by rw [show ((min (d * m) 1000 : Nat) : Int) = min 1000 ((d : Int) * m) by have := Int.natCast_mul d m; omega]; rfl, d9⟩
set_option maxRecDepth 100000 in
set_option maxHeartbeats 4000000 in
theorem lng_two (t u : Tm) (m k : Nat) (hm : m = capT 1000 t) (hmb : m ≤ 1000) (hk : k = capT 1000 u) (hkb : k ≤ 1000) (ih : LngC t) (ihu : LngC u) (lo b : Nat) (c : Nat) (w : World) (s1 : Int) (A1 : Option Addr) (n1 c1 : Nat) (s2 : Int) (A2 : Option Addr) (n2 c2 : Nat) (hb : b < w.heap.size) (h0 : w.cell? ⟨b, 0, none⟩ = some (.int .u8 s1)) (h1 : w.cell? ⟨b, 1, none⟩ = some (.slice A1 n1 c1)) (h2 : w.cell? ⟨b, 2, none⟩ = some (.int .u8 s2)) (h3 : w.cell? ⟨b, 3, none⟩ = some (.slice A2 n2 c2)) (ht : TmI lo w t s1 A1 n1) (hu : TmI lo w u s2 A2 n2) :
    Calls Tryd.prog 16 #[.agg #[.int .u8 43, .slice (some ⟨b, 0, none⟩) 2 c]] w fun e w' => e = .returned (.int .i64 ((min (m + k) 1000 : Nat) : Int)) ∧ Below w.heap.size w w' := by
  have IH := Lib.hid (fun W (hW : Below w.heap.size w W) => ih lo s1 A1 n1 c1 W (tmi_keep ht hW))
  have IH2 := Lib.hid (fun W (hW : Below w.heap.size w W) => ihu lo s2 A2 n2 c2 W (tmi_keep hu hW))
  rw [← hm] at IH
  rw [← hk] at IH2
  clear ih ihu ht hu hm hk
  refine (callsIn_wide (n := 5)).1 ?_
  refine callsIn_of_wp Tryd.func16 rfl trivial ?_ rfl
  simp only [Tryd.ntmps16, List.size_toArray, List.length_cons, List.length_nil, Nat.reduceAdd, Nat.reduceSub, Array.replicate_succ, Array.replicate_zero, List.push_toArray, List.append_toArray, List.nil_append, List.cons_append]
  gi_wp2_with fail
  have b1 : Below w.heap.size w (w.alloc (.cells #[.int .u8 43, .slice (some ⟨b, 0, none⟩) 2 c] 29)) := below_alloc (Below.refl _ _) _
  have y0 : (w.alloc (.cells #[.int .u8 43, .slice (some ⟨b, 0, none⟩) 2 c] 29)).cell? ⟨w.heap.size, 0, none⟩ = some (.int .u8 43) := by simp
  have y1 : (w.alloc (.cells #[.int .u8 43, .slice (some ⟨b, 0, none⟩) 2 c] 29)).cell? ⟨w.heap.size, 1, none⟩ = some (.slice (some ⟨b, 0, none⟩) 2 c) := by simp
  have x0 := cell_keep hb (Nat.le_refl _) b1 h0
  have x1 := cell_keep hb (Nat.le_refl _) b1 h1
  have x2 := cell_keep hb (Nat.le_refl _) b1 h2
  have x3 := cell_keep hb (Nat.le_refl _) b1 h3
  have bT := fun W (h : Below (w.alloc (.cells #[.int .u8 43, .slice (some ⟨b, 0, none⟩) 2 c] 29)).heap.size (w.alloc (.cells #[.int .u8 43, .slice (some ⟨b, 0, none⟩) 2 c] 29)) W) => below_then b1 h
  generalize w.alloc (.cells #[.int .u8 43, .slice (some ⟨b, 0, none⟩) 2 c] 29) = W1 at *
  generalize hB : w.heap.size = B at *
  have z0 := cell_regrown y0
  have z1 := cell_regrown y1
  have z2 := cell_regrown x0
  have z3 := cell_regrown x1
  have z4 := cell_regrown x2
  have z5 := cell_regrown x3
  have HRG := Lib.hid (show Rg W1 W1.drew from regrown_of_below (Below.refl _ _).drew)
  have hadd : IntKind.i64.wrap ((m : Int) + k) = (m : Int) + k := wrap_is rfl (by omega) (by omega)
  clear y0 y1 x0 x1 x2 x3 h0 h1 h2 h3
  refine region_pick 12 [(true, 0), (true, 1), (true, 2), (true, 3), (true, 5), (true, 6), (true, 7), (true, 8), (false, 4), (false, 9), (false, 10), (false, 11), (false, 12)] (by kernel_rfl) (by kernel_rfl) (fun _ _ t _ _ h => by cases t <;> exact h) ?_
  simp only [pickOps, List.map_cons, List.map_nil, List.getD_cons_zero, List.getD_cons_succ]
  refine pick_read HRG.out (.pointer (some ⟨B, 1, none⟩)) rfl (fun _ => rfl) (by rintro _ ⟨⟨d, os⟩, rfl⟩; go_simp) ?_
  refine pick_read HRG.out (.slice (some ⟨b, 0, none⟩) 2 c) rfl (fun _ => rfl) (by rintro _ ⟨⟨d, os⟩, rfl⟩; go_simp) ?_
  refine pick_read HRG.out (.pointer (some ⟨b, 0, none⟩)) rfl (fun _ => rfl) (by rintro _ ⟨⟨d, os⟩, rfl⟩; go_simp) ?_
  refine pick_read HRG.out (.agg #[.int .u8 s1, .slice A1 n1 c1]) rfl (fun _ => rfl) (by rintro _ ⟨⟨d, os⟩, rfl⟩; go_simp) ?_
  refine pick_read HRG.out (.pointer (some ⟨B, 1, none⟩)) rfl (fun _ => rfl) (by rintro _ ⟨⟨d, os⟩, rfl⟩; go_simp) ?_
  refine pick_read HRG.out (.slice (some ⟨b, 0, none⟩) 2 c) rfl (fun _ => rfl) (by rintro _ ⟨⟨d, os⟩, rfl⟩; go_simp) ?_
  refine pick_read HRG.out (.pointer (some ⟨b, 2, none⟩)) rfl (fun _ => rfl) (by rintro _ ⟨⟨d, os⟩, rfl⟩; go_simp) ?_
  refine pick_read HRG.out (.agg #[.int .u8 s2, .slice A2 n2 c2]) rfl (fun _ => rfl) (by rintro _ ⟨⟨d, os⟩, rfl⟩; go_simp) ?_
  clear z0 z1 z2 z3 z4 z5
  refine pick_step (fun K hK => ?_)
  unfold wpStep
  go_simp
  refine ⟨trivial, (callsIn_wide.2 (IH.out _ b1.drew)).mono ?_⟩
  rintro e w2 ⟨rfl, b2⟩
  have d2 : Below W1.heap.size W1 w2 := (Below.refl _ _).drew.trans b2
  refine hK _ _ (fun _ => regrown_of_below d2) ?_
  have d8 : Below B w w2 := bT _ d2
  clear hK K b2
  refine pick_step (fun K hK => ?_)
  unfold wpStep
  go_simp
  refine ⟨trivial, (callsIn_wide.2 (IH2.out _ d8)).mono ?_⟩
  rintro e w3 ⟨rfl, b3⟩
  have d3 : Below W1.heap.size W1 w3 := d2.trans (b3.mono d2.size)
  refine hK _ _ (fun _ => regrown_of_below d3) ?_
  have d9 : Below B w w3 := bT _ d3
  clear hK K b3
  refine pick_step (fun K hK => ?_)
  unfold wpStep
  go_simp
  refine hK _ _ (fun _ => regrown_of_below d3) ?_
  clear hK K
  refine pick_step (fun K hK => ?_)
  unfold wpStep
  go_simp
  refine hK _ _ (fun _ => regrown_of_below d3) ?_
  clear hK K
  refine pick_step (fun K hK => ?_)
  unfold wpStep
  go_simp
  refine hK _ _ (fun h => absurd h (by omega)) ?_
  clear hK K
  unfold wpPick
  gi_wp2_with fail
  go_ret
  exact ⟨by rw [show ((min (m + k) 1000 : Nat) : Int) = min 1000 ((m : Int) + k) by omega]; rfl, d9⟩
theorem cap_bdS {m : Nat} (t : Tm) (h : okTm t = true) (hm : 1 ≤ m) : capT m t ≤ m := by rw [cap_is hm t h]; omega
/-- The model's number of letters, at most 1000. -/
theorem l10Long_any : ∀ (t : Tm), okTm t = true → LngC t
  | .l k, h => lng_let k (by simpa [okTm] using h)
  | .b t, h => fun lo s A n c w ⟨e1, e2, b, s', A', n', c', e3, _, e5, e6, e7, e8⟩ => by
    subst e1; subst e2; subst e3
    exact lng_sgn t 45 (.inl rfl) (l10Long_any t h) lo b c w s' A' n' c' e5 e6 e7 e8
  | .u t, h => fun lo s A n c w ⟨e1, e2, b, s', A', n', c', e3, _, e5, e6, e7, e8⟩ => by
    subst e1; subst e2; subst e3
    exact lng_sgn t 64 (.inr rfl) (l10Long_any t h) lo b c w s' A' n' c' e5 e6 e7 e8
  | .r d t, h => fun lo s A n c w ⟨e1, e2, b, s', A', n', c', e3, _, e5, e6, e7, e8⟩ => by
    have h2 : okTm (.r d t) = (decide (2 ≤ d ∧ d ≤ 9) && okTm t) := rfl
    rw [h2] at h
    simp only [Bool.and_eq_true, decide_eq_true_eq] at h
    subst e1; subst e2; subst e3
    exact lng_rep t d _ h.1 rfl (cap_bdS t h.2 (by omega)) (l10Long_any t h.2) lo b c w s' A' n' c' e5 e6 e7 e8
  | .j a u, h => fun lo s A n c w ⟨e1, e2, b, s1, A1, n1, c1, s2, A2, n2, c2, e3, _, e5, e6, e7, e8, e9, ea, eb⟩ => by
    have h2 : okTm (.j a u) = (okTm a && okTm u) := rfl
    rw [h2] at h
    simp only [Bool.and_eq_true] at h
    subst e1; subst e2; subst e3
    exact lng_two a u _ _ rfl (cap_bdS a h.1 (by omega)) rfl (cap_bdS u h.2 (by omega)) (l10Long_any a h.1) (l10Long_any u h.2) lo b c w s1 A1 n1 c1 s2 A2 n2 c2 e5 e6 e7 e8 e9 ea eb
end Go.Proofs.YtegpidlhhneilaaDoor
