/- The model's l10Of, l10Short, TermLength. -/
import Derived.Test.YtegpidlhhneilaaDoorTrmT
import Derived.Test.YtegpidlhhneilaaDoorPick2
namespace Go.Proofs.YtegpidlhhneilaaDoor
open Go.RowKit Go.Sort Go.Lib
def GotT (lo : Nat) (w : World) (x : Option Tm) (s : Int) (A : Option Addr) (n : Nat) (ok : Bool) : Prop :=
  match x with
  | some t => ok = true ∧ TmI lo w t s A n
  | none => ok = false
theorem old_one (w : World) (a b : Value) (T : TypeId) : (w.alloc (.cells #[a, b] T)).cell? ⟨w.heap.size, 0, none⟩ = some a ∧ (w.alloc (.cells #[a, b] T)).cell? ⟨w.heap.size, 1, none⟩ = some b ∧ (w.alloc (.cells #[a, b] T)).frozen? ⟨w.heap.size, 0, none⟩ = false ∧ (w.alloc (.cells #[a, b] T)).frozen? ⟨w.heap.size, 1, none⟩ = false := ⟨by simp, by simp, by simp, by simp⟩
set_option maxRecDepth 100000 in
set_option maxHeartbeats 4000000 in
theorem l10Of_walk (l : List UInt8) (hl : l.length ≤ 60) (y : Bool) (w : World) (P : World → Int → Option Addr → Nat → Prop) (hP : ∀ W W2 s A n, KeepIn (w.heap.size + 1) W W2 → P W s A n → P W2 s A n)
    (h : Calls Tryd.prog 21 #[.string (bsB l), .int .i64 0] (w.alloc (.cells #[.int .u8 0, .slice none 0 0] 29)) fun e w' => (∃ s A n c q, e = .returned (.tuple #[.agg #[.int .u8 s, .slice A n c], .int .i64 (q : Nat)]) ∧ (decide (0 < q) && decide (q = l.length)) = y ∧ P w' s A n) ∧ Below (w.heap.size + 1) (w.alloc (.cells #[.int .u8 0, .slice none 0 0] 29)) w') :
    Calls Tryd.prog 19 #[.string (bsB l)] w fun e w' => (∃ s A n c, e = .returned (.tuple #[.agg #[.int .u8 s, .slice A n c], .bool y]) ∧ P w' s A n) ∧ Below w.heap.size w w' := by
  have hsz := bsB_size l
  have d1 : decide ((60 : Int) < (l.length : Int)) = false := decide_eq_false (by omega)
  have H := Lib.hid h
  have HP := Lib.hid hP
  clear h hP
  go_enter Tryd.func19, Tryd.ntmps19
  go_wp2_with fail
  refine H.out.mono ?_
  rintro e w2 ⟨⟨s', A', n', c', q, rfl, hy, hp⟩, b2⟩
  have hs2 := b2.size
  simp only [World.size_alloc] at hs2
  obtain ⟨u0, u1, u2, u3⟩ := old_one w (.int .u8 0) (.slice none 0 0) 29
  rw [← b2.cell (by show w.heap.size < _; omega)] at u0 u1
  rw [← b2.frozen (by show w.heap.size < _; omega)] at u2 u3
  have b3 : Below w.heap.size w w2 := Below.trans (show Below w.heap.size w _ by repeat (first | exact Below.refl _ _ | refine below_alloc ?_ _ | refine bel_set ?_ (by simp only [World.size_setCell, World.size_alloc]; omega) _ _ | refine bel_set ?_ (by omega) _ _ | refine Below.drew ?_)) (b2.mono (by omega))
  have HPp := Lib.hid hp
  have B3 := Lib.hid b3
  have HS2 := Lib.hid hs2
  have k0 : w.heap.size < w2.heap.size := by omega
  have k1 : w.heap.size ≠ w2.heap.size := by omega
  clear b2 b3 hp hs2
  by_cases hq0 : q = 0
  · subst hq0
    have HY : y = false := by rw [← hy]; rfl
    subst HY
    clear hy
    go_wp2_with fail
    refine bodyPost_ret (v := .tuple #[.agg #[.int .u8 s', .slice A' n' c'], .bool false]) (by simp [results, Tryd.f19, go_sem, u0, u1, k0]) rfl ?_
    have b3 := B3.out
    refine ⟨⟨_, _, _, _, rfl, HP.out _ _ _ _ _ ?_ HPp.out⟩, ?_⟩
    · repeat (first | exact KeepIn.refl _ _ | refine KeepIn.alloc ?_ _ | refine KeepIn.set ?_ (by first | (left; omega) | (right; omega)) _ _)
    · repeat (first | exact b3 | refine below_alloc ?_ _ | refine bel_set ?_ (by omega) _ _)
  · have e1 : decide (0 < (q : Int)) = true := decide_eq_true (by omega)
    have e2 : ((q : Int) == (l.length : Int)) = y := by
      rw [← hy, decide_eq_true (show 0 < q by omega), Bool.true_and]
      by_cases hx : q = l.length
      · rw [hx]; simp
      · rw [decide_eq_false hx]; simp; omega
    have e3 : 0 < q := by omega
    clear hy hq0
    go_wp2_with fail
    refine bodyPost_ret (v := .tuple #[.agg #[.int .u8 s', .slice A' n' c'], .bool y]) (by simp [results, Tryd.f19, go_sem, u0, u1, k0]) rfl ?_
    have b3 := B3.out
    refine ⟨⟨_, _, _, _, rfl, HP.out _ _ _ _ _ ?_ HPp.out⟩, ?_⟩
    · repeat (first | exact KeepIn.refl _ _ | refine KeepIn.alloc ?_ _ | refine KeepIn.set ?_ (by first | (left; omega) | (right; omega)) _ _)
    · repeat (first | exact b3 | refine below_alloc ?_ _ | refine bel_set ?_ (by omega) _ _)
set_option maxRecDepth 100000 in
set_option maxHeartbeats 4000000 in
theorem l10Of_long (l : List UInt8) (h : 60 < l.length) (hl : l.length ≤ 1048576) (w : World) : Calls Tryd.prog 19 #[.string (bsB l)] w fun e w' => (∃ s A n c, e = .returned (.tuple #[.agg #[.int .u8 s, .slice A n c], .bool false])) ∧ Below w.heap.size w w' := by
  have hsz := bsB_size l
  have d1 : decide ((60 : Int) < (l.length : Int)) = true := decide_eq_true (by omega)
  go_enter Tryd.func19, Tryd.ntmps19
  go_wp2_with fail
  refine bodyPost_ret (v := .tuple #[.agg #[.int .u8 110, .slice (some ⟨w.heap.size + 1, 0, none⟩) 0 0], .bool false]) (by simp [results, Tryd.f19, go_sem]) rfl ?_
  exact ⟨⟨_, _, _, _, rfl⟩, by repeat (first | exact Below.refl _ _ | refine below_alloc ?_ _ | refine bel_set ?_ (by simp only [World.size_setCell, World.size_alloc]; omega) _ _ | refine bel_set ?_ (by omega) _ _ | refine Below.drew ?_)⟩
/-- The model reads a whole text. -/
theorem l10Of_any (l : List UInt8) (hl : l.length ≤ 1048576) (w : World) : Calls Tryd.prog 19 #[.string (bsB l)] w fun e w' => (∃ s A n c ok, e = .returned (.tuple #[.agg #[.int .u8 s, .slice A n c], .bool ok]) ∧ GotT (w.heap.size + 1) w' (tmOf l) s A n ok) ∧ Below w.heap.size w w' := by
  have hTO : tmOf l = if 60 < l.length then none else match rdT 61 l with
    | some (t, []) => some t
    | _ => none := rfl
  by_cases hlen : 60 < l.length
  · rw [if_pos hlen] at hTO
    rw [hTO]
    refine (l10Of_long l hlen hl w).mono ?_
    rintro e w2 ⟨⟨s, A, n, c, rfl⟩, b⟩
    exact ⟨⟨s, A, n, c, false, rfl, rfl⟩, b⟩
  · rw [if_neg hlen] at hTO
    have HR := l10Read_any l (by omega) 61 0 (w.alloc (.cells #[.int .u8 0, .slice none 0 0] 29)) (by omega)
    unfold RdC at HR
    rw [World.size_alloc, List.drop_zero] at HR
    have hex : ∀ (y : Bool) (x : Option Tm), tmOf l = x → (∀ w' s A n q, RdG (w.heap.size + 1) w' l (rdT 61 l) s A n q → (decide (0 < q) && decide (q = l.length)) = y ∧ GotT (w.heap.size + 1) w' x s A n y) →
        Calls Tryd.prog 19 #[.string (bsB l)] w fun e w' => (∃ s A n c ok, e = .returned (.tuple #[.agg #[.int .u8 s, .slice A n c], .bool ok]) ∧ GotT (w.heap.size + 1) w' (tmOf l) s A n ok) ∧ Below w.heap.size w w' := by
      intro y x hx hy
      refine (l10Of_walk l (by omega) y w (fun W s A n => GotT (w.heap.size + 1) W x s A n y) ?_ ?_).mono ?_
      · intro W W2 s A n hk hg
        cases x with
        | none => exact hg
        | some t => exact ⟨hg.1, hg.2.keep hk (Nat.le_refl _)⟩
      · refine HR.mono ?_
        rintro e w2 ⟨⟨s, A, n, c, q, rfl, g⟩, b⟩
        exact ⟨⟨s, A, n, c, q, rfl, hy _ _ _ _ _ g⟩, b⟩
      · rintro e w2 ⟨⟨s, A, n, c, rfl, g⟩, b⟩
        rw [hx]
        exact ⟨⟨s, A, n, c, y, rfl, g⟩, b⟩
    cases hr : rdT 61 l with
    | none =>
      rw [hr] at hTO hex
      refine hex false none hTO fun w' s A n q g => ?_
      obtain rfl : q = 0 := g
      exact ⟨rfl, rfl⟩
    | some z =>
      obtain ⟨t, r⟩ := z
      rw [hr] at hTO hex
      cases r with
      | nil =>
        refine hex true (some t) hTO fun w' s A n q g => ?_
        obtain ⟨g1, g2, g3, g4⟩ := g
        have := congrArg List.length g3
        simp at this
        exact ⟨by rw [decide_eq_true g1, decide_eq_true (show q = l.length by omega)]; rfl, rfl, g4⟩
      | cons c r =>
        refine hex false none hTO fun w' s A n q g => ?_
        obtain ⟨g1, g2, g3, g4⟩ := g
        have := (bsB_at g3.symm).1
        exact ⟨by rw [decide_eq_false (show ¬ q = l.length by omega)]; exact Bool.and_false _, rfl⟩
def GotS (lo : Nat) (w : World) (x : Option Tm) (s : Int) (A : Option Addr) (n : Nat) (ok : Bool) : Prop :=
  match x with
  | some t => ok = decide (lenT t ≤ 200) ∧ TmI lo w t s A n
  | none => ok = false
set_option maxRecDepth 100000 in
set_option maxHeartbeats 4000000 in
theorem l10Short_any (l : List UInt8) (hl : l.length ≤ 1048576) (w : World) : Calls Tryd.prog 15 #[.string (bsB l)] w fun e w' => (∃ s A n c ok, e = .returned (.tuple #[.agg #[.int .u8 s, .slice A n c], .bool ok]) ∧ GotS w.heap.size w' (tmOf l) s A n ok) ∧ Below w.heap.size w w' := by
  have HO := Lib.hid (fun W => l10Of_any l hl W)
  refine (callsIn_wide (n := 5)).1 ?_
  refine callsIn_of_wp Tryd.func15 rfl trivial ?_ rfl
  simp only [Tryd.ntmps15, List.size_toArray, List.length_cons, List.length_nil, Nat.reduceAdd, Nat.reduceSub, Array.replicate_succ, Array.replicate_zero, List.push_toArray, List.append_toArray, List.nil_append, List.cons_append]
  gi_wp2_with fail
  refine ⟨trivial, (callsIn_wide.2 (HO.out _)).mono ?_⟩
  rintro e w2 ⟨⟨s', A', n', c', ok, rfl, g⟩, b2⟩
  rw [World.size_alloc] at g
  have hs2 := b2.size
  simp only [World.size_alloc] at hs2
  obtain ⟨u0, u1, u2, u3⟩ := old_one w (.int .u8 0) (.slice none 0 0) 29
  rw [← b2.cell (by simp only [World.size_alloc]; omega)] at u0 u1
  rw [← b2.frozen (by simp only [World.size_alloc]; omega)] at u2 u3
  have b3 : Below w.heap.size w w2 := Below.trans (show Below w.heap.size w _ by repeat (first | exact Below.refl _ _ | refine below_alloc ?_ _ | refine bel_set ?_ (by simp only [World.size_setCell, World.size_alloc]; omega) _ _ | refine bel_set ?_ (by omega) _ _ | refine Below.drew ?_)) (b2.mono (by simp only [World.size_alloc]; omega))
  have G := Lib.hid g
  have B3 := Lib.hid b3
  have HS2 := Lib.hid hs2
  have k0 : w.heap.size < w2.heap.size := by omega
  have k1 : w.heap.size ≠ w2.heap.size := by omega
  clear b2 b3 hs2 g
  gi_wp2_with fail
  have b1 : Below w.heap.size w (w2.alloc (.cells #[.int .u8 s', .slice A' n' c'] 29)) := below_alloc B3.out _
  have hK : KeepIn (w.heap.size + 1) w2 (w2.alloc (.cells #[.int .u8 s', .slice A' n' c'] 29)) := KeepIn.alloc (KeepIn.refl _ _) _
  have hG : GotT (w.heap.size + 1) (w2.alloc (.cells #[.int .u8 s', .slice A' n' c'] 29)) (tmOf l) s' A' n' ok := by
    have g := G.out
    cases hx : tmOf l with
    | none => rw [hx] at g; exact g
    | some t => rw [hx] at g; exact ⟨g.1, g.2.keep (KeepIn.alloc (KeepIn.refl _ _) _) (Nat.le_succ _)⟩
  obtain ⟨y0, y1, -, -⟩ := old_one w2 (.int .u8 s') (.slice A' n' c') 29
  have v0 := (World.cell?_alloc_lt (w := w2) (o := .cells #[.int .u8 s', .slice A' n' c'] 29) (a := ⟨w.heap.size, 0, none⟩) k0).trans u0
  have v1 := (World.cell?_alloc_lt (w := w2) (o := .cells #[.int .u8 s', .slice A' n' c'] 29) (a := ⟨w.heap.size, 1, none⟩) k0).trans u1
  have v2 := (World.frozen?_alloc_old w2 (.cells #[.int .u8 s', .slice A' n' c'] 29) ⟨w.heap.size, 0, none⟩ k1).trans u2
  have v3 := (World.frozen?_alloc_old w2 (.cells #[.int .u8 s', .slice A' n' c'] 29) ⟨w.heap.size, 1, none⟩ k1).trans u3
  have k2 : w2.heap.size < (w2.alloc (.cells #[.int .u8 s', .slice A' n' c'] 29)).heap.size := by simp only [World.size_alloc]; omega
  clear G B3 HS2 hK HO u0 u1 u2 u3
  generalize w2.alloc (.cells #[.int .u8 s', .slice A' n' c'] 29) = W at *
  generalize w2.heap.size = b4 at *
  generalize hB : w.heap.size = B at *
  clear w2
  have k3 : B ≠ b4 := k1
  have k4 : B < W.heap.size := by omega
  have hres : ∀ (x : Bool) (W' : World), (∀ t, tmOf l = some t → x = decide (lenT t ≤ 200)) → (tmOf l = none → x = false) → KeepIn (B + 1) W W' → GotS B W' (tmOf l) s' A' n' x := by
    intro x W' h1 h2 hk
    cases hx : tmOf l with
    | none => exact h2 hx
    | some t =>
      rw [hx] at hG
      exact ⟨h1 t hx, hG.2.keep hk (Nat.le_succ _)⟩
  have HRES := Lib.hid hres
  have HG := Lib.hid hG
  have B1 := Lib.hid b1
  clear hres b1
  cases ok with
  | false =>
    have hno : tmOf l = none := by
      cases hx : tmOf l with
      | none => rfl
      | some t => rw [hx] at hG; exact absurd hG.1 (by decide)
    clear hG
    refine region_pickR (fun X => X.cell? ⟨b4, 0, none⟩ = some (.int .u8 s') ∧ X.cell? ⟨b4, 1, none⟩ = some (.slice A' n' c')) 9 4 [(true, 0), (true, 1), (true, 2), (false, 3), (false, 4)] #[true, true, true, true, true, false, false, false, false] (by kernel_rfl) (by kernel_rfl) (by kernel_rfl) (fun _ _ t _ _ h => by cases t <;> exact h) ?_
    simp only [pickOps, List.map_cons, List.map_nil, List.getD_cons_zero, List.getD_cons_succ]
    have HC := Lib.hid (show W.drew.cell? ⟨b4, 0, none⟩ = some (.int .u8 s') ∧ W.drew.cell? ⟨b4, 1, none⟩ = some (.slice A' n' c') from ⟨y0, y1⟩)
    refine pickR_read HC.out (.agg #[.int .u8 s', .slice A' n' c']) rfl (fun _ => rfl) (by rintro _ ⟨z0, z1⟩; go_simp) ?_
    refine pickR_read HC.out (.bool false) rfl (fun _ => rfl) (by rintro _ ⟨z0, z1⟩; go_simp) ?_
    refine pickR_read HC.out (.bool false) rfl (fun _ => rfl) (by rintro _ ⟨z0, z1⟩; go_simp) ?_
    refine pickR_step (fun K hK => ?_)
    unfold wpStep
    go_simp
    refine hK _ _ (fun _ => HC.out) ?_
    clear hK K
    refine pickR_step (fun K hK => ?_)
    unfold wpStep
    go_simp
    refine ⟨trivial, hK _ _ (fun _ => HC.out) ?_⟩
    clear hK K
    have hcs : ∀ (X : World) (v1 v2 : Value), X.cell? ⟨b4, 0, none⟩ = some (.int .u8 s') ∧ X.cell? ⟨b4, 1, none⟩ = some (.slice A' n' c') → ((X.setCell ⟨B, 0, none⟩ v1).setCell ⟨B, 1, none⟩ v2).cell? ⟨b4, 0, none⟩ = some (.int .u8 s') ∧ ((X.setCell ⟨B, 0, none⟩ v1).setCell ⟨B, 1, none⟩ v2).cell? ⟨b4, 1, none⟩ = some (.slice A' n' c') := fun X v1 v2 h => by
      rw [World.cell?_setCell_far _ _ _ _ k3, World.cell?_setCell_far _ _ _ _ k3, World.cell?_setCell_far _ _ _ _ k3, World.cell?_setCell_far _ _ _ _ k3]
      exact h
    have HCS := Lib.hid hcs
    clear hcs y0 y1
    refine anyC_two 5 7 (by kernel_rfl) rfl rfl ?_ ?_
    · intro K hK
      unfold wpStep
      go_simp
      refine hK _ _ (fun _ => HC.out) ?_
      clear hK K
      refine anyC_two 6 7 (by kernel_rfl) rfl rfl ?_ ?_
      · intro K hK
        unfold wpStep
        go_simp
        refine hK _ _ (fun _ => HC.out) ?_
        clear hK K
        refine anyC_one 7 (by kernel_rfl) rfl ?_
        intro K hK
        unfold wpStep
        go_simp
        refine hK _ _ (fun _ => HCS.out _ _ _ HC.out) ?_
        clear hK K
        refine anyC_one 8 (by kernel_rfl) rfl ?_
        intro K hK
        unfold wpStep
        go_simp
        refine hK _ _ (fun _ => HCS.out _ _ _ HC.out) ?_
        clear hK K
        refine anyC_done (by kernel_rfl) ?_
        gi_wp2_with fail
        refine bodyPost_ret (v := .tuple #[.agg #[.int .u8 s', .slice A' n' c'], .bool false]) (by simp [results, Tryd.f15, go_sem, v0, v1]) rfl ?_
        refine ⟨⟨_, _, _, _, _, rfl, HRES.out false _ (fun t e => (by rw [hno] at e; cases e)) (fun _ => rfl) ?_⟩, ?_⟩
        · exact KeepIn.set (KeepIn.set ⟨Nat.le_refl _, fun _ _ _ _ => rfl⟩ (by left; omega) _ _) (by left; omega) _ _
        · exact bel_set (bel_set B1.out.drew (Nat.le_refl _) _ _) (Nat.le_refl _) _ _
      · intro K hK
        unfold wpStep
        go_simp
        refine hK _ _ (fun _ => HCS.out _ _ _ HC.out) ?_
        clear hK K
        refine anyC_one 6 (by kernel_rfl) rfl ?_
        intro K hK
        unfold wpStep
        go_simp
        refine hK _ _ (fun _ => HCS.out _ _ _ HC.out) ?_
        clear hK K
        refine anyC_one 8 (by kernel_rfl) rfl ?_
        intro K hK
        unfold wpStep
        go_simp
        refine hK _ _ (fun _ => HCS.out _ _ _ HC.out) ?_
        clear hK K
        refine anyC_done (by kernel_rfl) ?_
        gi_wp2_with fail
        refine bodyPost_ret (v := .tuple #[.agg #[.int .u8 s', .slice A' n' c'], .bool false]) (by simp [results, Tryd.f15, go_sem, v0, v1]) rfl ?_
        refine ⟨⟨_, _, _, _, _, rfl, HRES.out false _ (fun t e => (by rw [hno] at e; cases e)) (fun _ => rfl) ?_⟩, ?_⟩
        · exact KeepIn.set (KeepIn.set ⟨Nat.le_refl _, fun _ _ _ _ => rfl⟩ (by left; omega) _ _) (by left; omega) _ _
        · exact bel_set (bel_set B1.out.drew (Nat.le_refl _) _ _) (Nat.le_refl _) _ _
    · intro K hK
      unfold wpStep
      go_simp
      refine hK _ _ (fun _ => HCS.out _ _ _ HC.out) ?_
      clear hK K
      refine anyC_one 5 (by kernel_rfl) rfl ?_
      intro K hK
      unfold wpStep
      go_simp
      refine hK _ _ (fun _ => HCS.out _ _ _ HC.out) ?_
      clear hK K
      refine anyC_one 6 (by kernel_rfl) rfl ?_
      intro K hK
      unfold wpStep
      go_simp
      refine hK _ _ (fun _ => HCS.out _ _ _ HC.out) ?_
      clear hK K
      refine anyC_one 8 (by kernel_rfl) rfl ?_
      intro K hK
      unfold wpStep
      go_simp
      refine hK _ _ (fun _ => HCS.out _ _ _ HC.out) ?_
      clear hK K
      refine anyC_done (by kernel_rfl) ?_
      gi_wp2_with fail
      refine bodyPost_ret (v := .tuple #[.agg #[.int .u8 s', .slice A' n' c'], .bool false]) (by simp [results, Tryd.f15, go_sem, v0, v1]) rfl ?_
      refine ⟨⟨_, _, _, _, _, rfl, HRES.out false _ (fun t e => (by rw [hno] at e; cases e)) (fun _ => rfl) ?_⟩, ?_⟩
      · exact KeepIn.set (KeepIn.set ⟨Nat.le_refl _, fun _ _ _ _ => rfl⟩ (by left; omega) _ _) (by left; omega) _ _
      · exact bel_set (bel_set B1.out.drew (Nat.le_refl _) _ _) (Nat.le_refl _) _ _
  | true =>
    obtain ⟨t, hyes, hT⟩ : ∃ t, tmOf l = some t ∧ TmI (B + 1) W t s' A' n' := by
      cases hx : tmOf l with
      | none => rw [hx] at hG; exact absurd (show true = false from hG) (by decide)
      | some t => rw [hx] at hG; exact ⟨t, rfl, hG.2⟩
    have hok := (tmOf_iff.1 hyes).2.1
    have hLg := l10Long_any t hok (B + 1) s' A' n' c' W.drew (hT.keep (show KeepIn (B + 1) W W.drew from ⟨Nat.le_refl _, fun _ _ _ _ => rfl⟩) (Nat.le_refl _))
    have hcap := cap_is (m := 1000) (by omega) t hok
    generalize capT 1000 t = k at *
    have dk : decide ((k : Int) ≤ 200) = decide (lenT t ≤ 200) := by
      by_cases hx : lenT t ≤ 200
      · rw [decide_eq_true hx]; exact decide_eq_true (by omega)
      · rw [decide_eq_false hx]; exact decide_eq_false (by omega)
    have dk2 : decide (k ≤ 200) = decide (lenT t ≤ 200) := by
      by_cases hx : lenT t ≤ 200
      · rw [decide_eq_true hx]; exact decide_eq_true (by omega)
      · rw [decide_eq_false hx]; exact decide_eq_false (by omega)
    have HL := Lib.hid hLg
    clear hG hcap hT hLg hok
    refine region_pickR (fun X => X.cell? ⟨b4, 0, none⟩ = some (.int .u8 s') ∧ X.cell? ⟨b4, 1, none⟩ = some (.slice A' n' c')) 9 4 [(true, 0), (true, 1), (true, 2), (false, 3), (false, 4)] #[true, true, true, true, true, false, false, false, false] (by kernel_rfl) (by kernel_rfl) (by kernel_rfl) (fun _ _ t _ _ h => by cases t <;> exact h) ?_
    simp only [pickOps, List.map_cons, List.map_nil, List.getD_cons_zero, List.getD_cons_succ]
    have HC0 := Lib.hid (show W.drew.cell? ⟨b4, 0, none⟩ = some (.int .u8 s') ∧ W.drew.cell? ⟨b4, 1, none⟩ = some (.slice A' n' c') from ⟨y0, y1⟩)
    refine pickR_read HC0.out (.agg #[.int .u8 s', .slice A' n' c']) rfl (fun _ => rfl) (by rintro _ ⟨z0, z1⟩; go_simp) ?_
    refine pickR_read HC0.out (.bool true) rfl (fun _ => rfl) (by rintro _ ⟨z0, z1⟩; go_simp) ?_
    refine pickR_read HC0.out (.bool true) rfl (fun _ => rfl) (by rintro _ ⟨z0, z1⟩; go_simp) ?_
    refine pickR_step (fun K hK => ?_)
    unfold wpStep
    go_simp
    refine hK _ _ (fun _ => HC0.out) ?_
    clear hK K
    refine pickR_step (fun K hK => ?_)
    unfold wpStep
    go_simp
    refine ⟨trivial, (callsIn_wide.2 HL.out).mono ?_⟩
    rintro e w4 ⟨rfl, b5⟩
    have KX := Lib.hid (show KeepIn (B + 1) W w4 from KeepIn.below (w' := W.drew) ⟨Nat.le_refl _, fun _ _ _ _ => rfl⟩ b5 (Nat.le_refl _))
    have BX := Lib.hid (show Below B w w4 from B1.out.drew.trans (b5.mono (by show B ≤ W.heap.size; omega)))
    have HC := Lib.hid (show w4.cell? ⟨b4, 0, none⟩ = some (.int .u8 s') ∧ w4.cell? ⟨b4, 1, none⟩ = some (.slice A' n' c') from ⟨(b5.cell (p := ⟨b4, 0, none⟩) k2).trans y0, (b5.cell (p := ⟨b4, 1, none⟩) k2).trans y1⟩)
    replace v0 := (b5.cell (p := ⟨B, 0, none⟩) k4).trans v0
    replace v1 := (b5.cell (p := ⟨B, 1, none⟩) k4).trans v1
    replace v2 := (b5.frozen (p := ⟨B, 0, none⟩) k4).trans v2
    replace v3 := (b5.frozen (p := ⟨B, 1, none⟩) k4).trans v3
    refine hK _ _ (fun _ => HC.out) ?_
    clear hK K b5
    have hcs : ∀ (X : World) (v1 v2 : Value), X.cell? ⟨b4, 0, none⟩ = some (.int .u8 s') ∧ X.cell? ⟨b4, 1, none⟩ = some (.slice A' n' c') → ((X.setCell ⟨B, 0, none⟩ v1).setCell ⟨B, 1, none⟩ v2).cell? ⟨b4, 0, none⟩ = some (.int .u8 s') ∧ ((X.setCell ⟨B, 0, none⟩ v1).setCell ⟨B, 1, none⟩ v2).cell? ⟨b4, 1, none⟩ = some (.slice A' n' c') := fun X v1 v2 h => by
      rw [World.cell?_setCell_far _ _ _ _ k3, World.cell?_setCell_far _ _ _ _ k3, World.cell?_setCell_far _ _ _ _ k3, World.cell?_setCell_far _ _ _ _ k3]
      exact h
    have HCS := Lib.hid hcs
    clear hcs y0 y1
    refine anyC_two 5 7 (by kernel_rfl) rfl rfl ?_ ?_
    · intro K hK
      unfold wpStep
      go_simp
      refine hK _ _ (fun _ => HC.out) ?_
      clear hK K
      refine anyC_two 6 7 (by kernel_rfl) rfl rfl ?_ ?_
      · intro K hK
        unfold wpStep
        go_simp
        refine hK _ _ (fun _ => HC.out) ?_
        clear hK K
        refine anyC_one 7 (by kernel_rfl) rfl ?_
        intro K hK
        unfold wpStep
        go_simp
        refine hK _ _ (fun _ => HCS.out _ _ _ HC.out) ?_
        clear hK K
        refine anyC_one 8 (by kernel_rfl) rfl ?_
        intro K hK
        unfold wpStep
        go_simp
        refine hK _ _ (fun _ => HCS.out _ _ _ HC.out) ?_
        clear hK K
        refine anyC_done (by kernel_rfl) ?_
        gi_wp2_with fail
        refine bodyPost_ret (v := .tuple #[.agg #[.int .u8 s', .slice A' n' c'], .bool (decide (lenT t ≤ 200))]) (by simp [results, Tryd.f15, go_sem, v0, v1]) rfl ?_
        refine ⟨⟨_, _, _, _, _, rfl, HRES.out _ _ (fun t' e => (by rw [hyes] at e; cases e; rfl)) (fun e => (by rw [hyes] at e; cases e)) ?_⟩, ?_⟩
        · exact KeepIn.set (KeepIn.set KX.out (by left; omega) _ _) (by left; omega) _ _
        · exact bel_set (bel_set BX.out (Nat.le_refl _) _ _) (Nat.le_refl _) _ _
      · intro K hK
        unfold wpStep
        go_simp
        refine hK _ _ (fun _ => HCS.out _ _ _ HC.out) ?_
        clear hK K
        refine anyC_one 6 (by kernel_rfl) rfl ?_
        intro K hK
        unfold wpStep
        go_simp
        refine hK _ _ (fun _ => HCS.out _ _ _ HC.out) ?_
        clear hK K
        refine anyC_one 8 (by kernel_rfl) rfl ?_
        intro K hK
        unfold wpStep
        go_simp
        refine hK _ _ (fun _ => HCS.out _ _ _ HC.out) ?_
        clear hK K
        refine anyC_done (by kernel_rfl) ?_
        gi_wp2_with fail
        refine bodyPost_ret (v := .tuple #[.agg #[.int .u8 s', .slice A' n' c'], .bool (decide (lenT t ≤ 200))]) (by simp [results, Tryd.f15, go_sem, v0, v1]) rfl ?_
        refine ⟨⟨_, _, _, _, _, rfl, HRES.out _ _ (fun t' e => (by rw [hyes] at e; cases e; rfl)) (fun e => (by rw [hyes] at e; cases e)) ?_⟩, ?_⟩
        · exact KeepIn.set (KeepIn.set KX.out (by left; omega) _ _) (by left; omega) _ _
        · exact bel_set (bel_set BX.out (Nat.le_refl _) _ _) (Nat.le_refl _) _ _
    · intro K hK
      unfold wpStep
      go_simp
      refine hK _ _ (fun _ => HCS.out _ _ _ HC.out) ?_
      clear hK K
      refine anyC_one 5 (by kernel_rfl) rfl ?_
      intro K hK
      unfold wpStep
      go_simp
      refine hK _ _ (fun _ => HCS.out _ _ _ HC.out) ?_
      clear hK K
      refine anyC_one 6 (by kernel_rfl) rfl ?_
      intro K hK
      unfold wpStep
      go_simp
      refine hK _ _ (fun _ => HCS.out _ _ _ HC.out) ?_
      clear hK K
      refine anyC_one 8 (by kernel_rfl) rfl ?_
      intro K hK
      unfold wpStep
      go_simp
      refine hK _ _ (fun _ => HCS.out _ _ _ HC.out) ?_
      clear hK K
      refine anyC_done (by kernel_rfl) ?_
      gi_wp2_with fail
      refine bodyPost_ret (v := .tuple #[.agg #[.int .u8 s', .slice A' n' c'], .bool (decide (lenT t ≤ 200))]) (by simp [results, Tryd.f15, go_sem, v0, v1]) rfl ?_
      refine ⟨⟨_, _, _, _, _, rfl, HRES.out _ _ (fun t' e => (by rw [hyes] at e; cases e; rfl)) (fun e => (by rw [hyes] at e; cases e)) ?_⟩, ?_⟩
      · exact KeepIn.set (KeepIn.set KX.out (by left; omega) _ _) (by left; omega) _ _
      · exact bel_set (bel_set BX.out (Nat.le_refl _) _ _) (Nat.le_refl _) _ _
end Go.Proofs.YtegpidlhhneilaaDoor
