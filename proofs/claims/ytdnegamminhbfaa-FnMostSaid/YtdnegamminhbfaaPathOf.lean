/- The program's reading of a path: a ring of corners. -/
import Derived.Test.YtdnegamminhbfaaRing
namespace Go.Proofs.Ytdnegamminhbfaa
open Go.RowKit Go.Sort Go.Lib

/-- The step that a row is. -/
abbrev rowPt (r : List Int) : Pt := (r.getD 0 0, r.getD 1 0)
def stepRow (r : List Int) : Bool := decide (r.length = 2) && (decide (-9 ≤ r.getD 0 0) && decide (r.getD 0 0 ≤ 9)) && (decide (-9 ≤ r.getD 1 0) && decide (r.getD 1 0 ≤ 9)) && !(decide (r.getD 0 0 = 0) && decide (r.getD 1 0 = 0))
/-- Whether rows are a path. -/
def pathB (L : List (List Int)) : Bool := L.all stepRow && (decide (3 ≤ L.length) && decide (L.length ≤ 8)) && decide (tot (L.map rowPt) = (0, 0))

theorem vec_back {W : World} {g : Nat} {x y : Int} {R : Ending → World → Prop} {a : Act} (ht : a.defers = []) (hr : a.tmps.getD 2 undef = ptrV g) {ok : Bool} (h3 : a.tmps.getD 3 undef = .bool ok) (h : W.heap[g]? = some (vecO x y)) (h2 : R (.returned (.tuple #[vecX x y, .bool ok])) W) :
    bodyPost Try.prog Try.f143 R .ret a W := by
  obtain ⟨u0, u1, _, _⟩ := pr_cells h
  refine bodyPost_ret (v := .tuple #[vecX x y, .bool ok]) ?_ ht h2
  have hr' : a.tmps[2]?.getD undef = ptrV g := by simpa using hr
  have h3' : a.tmps[3]?.getD undef = .bool ok := by simpa using h3
  simp [results, Try.f143, go_sem, u0, u1, hr', h3']

set_option maxRecDepth 100000 in
set_option maxHeartbeats 4000000 in
theorem stepOf_any (A : Option Addr) (n c : Nat) (r : List Int) (w : World) (h : Rd w A n r) (hn : n ≤ 1048576) :
    Calls Try.prog 143 #[.slice A n c] w fun e w' => (∃ x y, e = .returned (.tuple #[vecX x y, .bool (stepRow r)]) ∧ (stepRow r = true → (x, y) = rowPt r)) ∧ Below w.heap.size w w' := by
  have hl := h.1
  have hN := fun x W => isStepNumber_any x W
  by_cases h2 : n = 2
  · subst h2
    obtain ⟨b, off, rfl, hbl, hc⟩ := h.2 (by omega)
    have HB0 := Lib.hid (below_alloc (Below.refl w.heap.size w) (vecO 0 0))
    have c0 : (w.alloc (vecO 0 0)).cell? ⟨b, off + 0, none⟩ = some (.int .i64 (r.getD 0 0)) := (HB0.out.cell (p := ⟨b, off + 0, none⟩) hbl).trans (hc 0 (by omega))
    have c1 := (HB0.out.cell (p := ⟨b, off + 1, none⟩) hbl).trans (hc 1 (by omega))
    have hRb : rowPt r = (r.getD 0 0, r.getD 1 0) := rfl
    have hS : stepRow r = ((decide (-9 ≤ r.getD 0 0) && decide (r.getD 0 0 ≤ 9)) && (decide (-9 ≤ r.getD 1 0) && decide (r.getD 1 0 ≤ 9)) && !(decide (r.getD 0 0 = 0) && decide (r.getD 1 0 = 0))) := by unfold stepRow; rw [hl]; simp
    rw [hRb, hS]
    obtain ⟨x, ex⟩ : ∃ x, x = r.getD 0 0 := ⟨_, rfl⟩
    obtain ⟨y, ey⟩ : ∃ y, y = r.getD 1 0 := ⟨_, rfl⟩
    rw [← ex, ← ey]
    rw [← ex] at c0
    rw [← ey] at c1
    clear hc h hl ex ey hS hRb
    have hV0 := Lib.hid (World.alloc_heap_new w (vecO 0 0))
    rw [Nat.add_zero] at c0
    cases hx : (decide (-9 ≤ x) && decide (x ≤ 9)) with
    | true =>
      cases hy : (decide (-9 ≤ y) && decide (y ≤ 9)) with
      | true =>
        have hN1 := fun W => hN x W
        have hN2 := fun W => hN y W
        rw [hx] at hN1
        rw [hy] at hN2
        clear hN hx hy
        have HN1 := Lib.hid hN1
        have HN2 := Lib.hid hN2
        clear hN1 hN2
        have key : ∀ ok : Bool, (if x = 0 then if y = 0 then ok = false else ok = true else ok = true) → Calls Try.prog 143 #[.slice (some ⟨b, off, none⟩) 2 c] w fun e w' => e = .returned (.tuple #[vecX x y, .bool ok]) ∧ Below w.heap.size w w' := by
          intro ok hok
          have HV1 := Lib.hid (al_new2 w (vecO 0 0) (vecO x y))
          have k0 := (pr_cells (al_new2 w (vecO 0 0) (vecO x y))).1
          have k1 := (pr_cells (al_new2 w (vecO 0 0) (vecO x y))).2.1
          have k2 := (pr_cells (al_old (o' := vecO x y) (World.alloc_heap_new w (vecO 0 0))))
          have HW := Lib.hid (show Below w.heap.size w (((w.alloc (vecO 0 0)).alloc (vecO x y))) from below_alloc HB0.out _)
          have HK := Lib.hid (al_old (o' := vecO x y) (World.alloc_heap_new w (vecO 0 0)))
          obtain ⟨k2, k3, f2, f3⟩ := k2
          by_cases hx0 : x = 0
          · by_cases hy0 : y = 0
            · rw [if_pos hx0, if_pos hy0] at hok
              subst hok hx0 hy0
              go_enter Try.func143, Try.ntmps143
              go_wp2_with fail
              refine (HN1.out _).mono ?_
              rintro e w1 ⟨rfl, rfl⟩
              go_wp2_with fail
              refine (HN2.out _).mono ?_
              rintro e w1 ⟨rfl, rfl⟩
              go_wp2_with fail
              go_region
              go_wp2_with fail
              go_region
              go_wp2_with fail
              exact vec_back (g := w.heap.size) (x := 0) (y := 0) (ok := false) rfl rfl rfl (al_old (o' := vecO 0 0) (World.alloc_heap_new w (vecO 0 0))) ⟨rfl, (below_alloc (below_alloc (Below.refl w.heap.size w) (vecO 0 0)) (vecO 0 0)).drew.drew⟩
            · rw [if_pos hx0, if_neg hy0] at hok
              subst hok hx0
              go_enter Try.func143, Try.ntmps143
              go_wp2_with fail
              refine (HN1.out _).mono ?_
              rintro e w1 ⟨rfl, rfl⟩
              go_wp2_with fail
              refine (HN2.out _).mono ?_
              rintro e w1 ⟨rfl, rfl⟩
              go_wp2_with fail
              go_region
              go_wp2_with fail
              go_region
              go_wp2_with fail
              exact vec_back (g := w.heap.size) (x := 0) (y := y) (ok := true) rfl rfl rfl (al_old (o' := vecO 0 y) (World.alloc_heap_new w (vecO 0 y))) ⟨rfl, (below_alloc (below_alloc (Below.refl w.heap.size w) (vecO 0 y)) (vecO 0 y)).drew.drew⟩
          · rw [if_neg hx0] at hok
            subst hok
            go_enter Try.func143, Try.ntmps143
            go_wp2_with fail
            refine (HN1.out _).mono ?_
            rintro e w1 ⟨rfl, rfl⟩
            go_wp2_with fail
            refine (HN2.out _).mono ?_
            rintro e w1 ⟨rfl, rfl⟩
            go_wp2_with fail
            go_region
            go_wp2_with fail
            go_region
            go_wp2_with fail
            exact vec_back (g := w.heap.size) (x := x) (y := y) (ok := true) rfl rfl rfl (al_old (o' := vecO x y) (World.alloc_heap_new w (vecO x y))) ⟨rfl, (below_alloc (below_alloc (Below.refl w.heap.size w) (vecO x y)) (vecO x y)).drew.drew⟩
        refine (key (!(decide (x = 0) && decide (y = 0))) (by split <;> (try split) <;> simp_all)).mono ?_
        rintro e w' ⟨rfl, hb⟩
        exact ⟨⟨x, y, by simp, fun _ => rfl⟩, hb⟩
      | false =>
        have hN1 := fun W => hN x W
        have hN2 := fun W => hN y W
        rw [hx] at hN1
        rw [hy] at hN2
        clear hN hx hy
        have HN1 := Lib.hid hN1
        have HN2 := Lib.hid hN2
        clear hN1 hN2
        go_enter Try.func143, Try.ntmps143
        go_wp2_with fail
        refine (HN1.out _).mono ?_
        rintro e w1 ⟨rfl, rfl⟩
        go_wp2_with fail
        refine (HN2.out _).mono ?_
        rintro e w1 ⟨rfl, rfl⟩
        go_wp2_with fail
        exact vec_back (g := w.heap.size) (x := 0) (y := 0) (ok := false) rfl rfl rfl hV0.out ⟨⟨0, 0, rfl, fun e => by cases e⟩, HB0.out⟩
    | false =>
      have hN1 := fun W => hN x W
      rw [hx] at hN1
      clear hN hx
      have HN1 := Lib.hid hN1
      clear hN1
      go_enter Try.func143, Try.ntmps143
      go_wp2_with fail
      refine (HN1.out _).mono ?_
      rintro e w1 ⟨rfl, rfl⟩
      go_wp2_with fail
      exact vec_back (g := w.heap.size) (x := 0) (y := 0) (ok := false) rfl rfl rfl hV0.out ⟨⟨0, 0, rfl, fun e => by cases e⟩, HB0.out⟩
  · have hS : stepRow r = false := by unfold stepRow; rw [hl]; simp [h2]
    have d1 : ((n : Int) != 2) = true := by simp; omega
    rw [hS]
    have HB0 := Lib.hid (below_alloc (Below.refl w.heap.size w) (vecO 0 0))
    have hV0 := Lib.hid (World.alloc_heap_new w (vecO 0 0))
    clear h hl hS h2 hN
    go_enter Try.func143, Try.ntmps143
    go_wp2_with fail
    exact vec_back (g := w.heap.size) (x := 0) (y := 0) (ok := false) rfl rfl rfl hV0.out ⟨⟨0, 0, rfl, fun e => by cases e⟩, HB0.out⟩
end Go.Proofs.Ytdnegamminhbfaa
