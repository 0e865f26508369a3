/- Joined: Draw6, Draw6b, Draw6c. -/
import Derived.Test.YtdnegamminhbfaaRead
import Derived.Test.YtdnegamminhbfaaOrdS3
import Derived.Deep.DeepCutAuto
/- The model's draws of chapters 6 and 7: steps, paths, stars. -/
namespace Go.Proofs.Ytdnegamminhbfaa
open Go.RowKit Go.Sort Go.Lib

/-- A slice of rows, all of it in blocks from B on. -/
def FarM (w : World) (B : Nat) (A : Option Addr) (n : Nat) (L : List (List Int)) : Prop :=
  L.length = n ∧ (0 < n → ∃ b off, A = some ⟨b, off, none⟩ ∧ B ≤ b ∧ b < w.heap.size ∧ ∀ j, j < n → ∃ k, B ≤ k ∧ w.cell? ⟨b, off + j, none⟩ = some (rowW k (rowL L j)) ∧ RowBlk w k (rowL L j))
theorem FarM.kept {w w' : World} {B n : Nat} {A : Option Addr} {L : List (List Int)} {row : Option Nat} (h : FarM w B A n L) (hg : w.grownBy w' row) (hr : ∀ k, row = some k → k < B ∨ w.heap.size ≤ k) : FarM w' B A n L := by
  refine ⟨h.1, fun hn => ?_⟩
  obtain ⟨b, off, rfl, hb, hlt, hc⟩ := h.2 hn
  refine ⟨b, off, rfl, hb, Nat.lt_of_lt_of_le hlt hg.size, fun j hj => ?_⟩
  obtain ⟨k, h1, h2, h3⟩ := hc j hj
  have h4 := h3.lt
  exact ⟨k, h1, hg.cell h2 (fun e => by have := hr _ e.symm; dsimp only at this; omega), h3.kept hg (fun e => by have := hr _ e.symm; omega)⟩
theorem FarM.same {w w' : World} {B n : Nat} {A : Option Addr} {L : List (List Int)} (h : FarM w B A n L) (hb : Below w.heap.size w w') : FarM w' B A n L := h.kept (grown_of_below hb) (fun k e => by cases e)
theorem FarM.lower {w : World} {B B' n : Nat} {A : Option Addr} {L : List (List Int)} (h : FarM w B A n L) (hB : B' ≤ B) : FarM w B' A n L :=
  ⟨h.1, fun hn => by
    obtain ⟨b, off, e, hb, hlt, hc⟩ := h.2 hn
    exact ⟨b, off, e, Nat.le_trans hB hb, hlt, fun j hj => by
      obtain ⟨k, h1, h2, h3⟩ := hc j hj
      exact ⟨k, Nat.le_trans hB h1, h2, h3⟩⟩⟩
theorem FarM.rd {w : World} {B n : Nat} {A : Option Addr} {L : List (List Int)} (h : FarM w B A n L) : RdM w A n L :=
  ⟨h.1, fun hn => by
    obtain ⟨b, off, e, hb, hlt, hc⟩ := h.2 hn
    exact ⟨b, off, e, hlt, fun j hj => by
      obtain ⟨k, h1, h2, h3⟩ := hc j hj
      exact ⟨_, _, h2, h3.rd⟩⟩⟩
theorem OwnM.farM {w : World} {B n c : Nat} {A : Option Addr} {gs : List Nat} {L : List (List Int)} (h : OwnM w B A n c gs L) : FarM w B A n L := by
  have hn := h.n
  refine ⟨hn, fun h0 => ?_⟩
  obtain ⟨g, rfl, hb, hlt, _⟩ := h.at_ h0
  refine ⟨g, 0, rfl, hb, hlt, fun j hj => ?_⟩
  obtain ⟨g', e, _, _, hc⟩ := h.at_ hj
  cases e
  obtain ⟨q1, q2⟩ := h.rows j (by omega)
  exact ⟨_, q1, by rw [Nat.zero_add]; exact hc, q2⟩
theorem FarM.tail {w : World} {B n b off : Nat} {L : List (List Int)} (h : FarM w B (some ⟨b, off, none⟩) n L) (hn : 0 < n) : FarM w B (some ⟨b, off + 1, none⟩) (n - 1) (L.drop 1) := by
  obtain ⟨b', off', e, hb, hlt, hc⟩ := h.2 hn
  simp only [Option.some.injEq, Addr.mk.injEq, and_true] at e
  obtain ⟨rfl, rfl⟩ := e
  refine ⟨by simp [h.1], fun _ => ⟨b, off + 1, rfl, hb, hlt, fun j hj => ?_⟩⟩
  obtain ⟨k, h1, h2, h3⟩ := hc (1 + j) (by omega)
  have e : rowL (L.drop 1) j = rowL L (1 + j) := by unfold rowL; simp [List.getD_eq_getElem?_getD, Nat.add_comm]
  rw [e, Nat.add_assoc]
  exact ⟨k, h1, h2, h3⟩
theorem row_cells {w : World} {g : Nat} {x y : Int} (h : RowBlk w g [x, y]) : w.cell? ⟨g, 0, none⟩ = some (.int .i64 x) ∧ w.cell? ⟨g, 1, none⟩ = some (.int .i64 y) := by
  constructor
  · rw [cell_of_row w g 0 _ _ _ h.1]; rfl
  · rw [cell_of_row w g 1 _ _ _ h.1]; rfl
theorem stepRow_two {x y : Int} (h1 : -9 ≤ x ∧ x ≤ 9) (h2 : -9 ≤ y ∧ y ≤ 9) (h3 : ¬(x = 0 ∧ y = 0)) : stepRow [x, y] = true := by
  simp only [stepRow, List.length_cons, List.length_nil, List.getD_eq_getElem?_getD]
  simp
  omega
theorem stepsB_snoc {L : List (List Int)} {r : List Int} (h1 : stepsB L = true) (h2 : stepRow r = true) : stepsB (L ++ [r]) = true := by
  simp only [stepsB, List.all_append, h1, List.all_cons, h2, List.all_nil]; rfl
theorem stepsB_drop {L : List (List Int)} (h : stepsB L = true) : stepsB (L.drop 1) = true := List.all_eq_true.2 fun r hr => List.all_eq_true.1 h r (List.mem_of_mem_drop hr)
theorem small_steps {L : List (List Int)} (h : stepsB L = true) (hn : L.length ≤ 1000) : SmallM L := by
  have key : ∀ k, k ≤ L.length → lenTo L k = 2 * k := fun k => by
    induction k with
    | zero => intro _; rfl
    | succ k ih =>
      intro hk
      rw [lenTo_succ (by omega), ih (by omega), (stepRow_pt (stepsB_at h (by omega : k < L.length))).2]
      omega
  unfold SmallM
  rw [key _ (Nat.le_refl _)]
  omega

set_option maxRecDepth 100000 in
set_option maxHeartbeats 4000000 in
theorem l92Step_any (w0 : World) (g p most : Nat) (w : World) (h : Rdr w0 w g p) (hp : p ≤ 90000) (hm1 : 1 ≤ most) (hm : most ≤ 9) :
    Calls Try.prog 115 #[.pointer (some ⟨g, 0, none⟩), .int .i64 most] w fun e w' => ∃ (gx : Nat) (x y : Int), e = .returned (.slice (some ⟨gx, 0, none⟩) 2 2) ∧ RowBlk w' gx [x, y] ∧ w.heap.size ≤ gx ∧ ((-(most : Int) ≤ x ∧ x ≤ most) ∧ (-(most : Int) ≤ y ∧ y ≤ most) ∧ ¬(x = 0 ∧ y = 0)) ∧ Rdr w0 w' g (p + 2) ∧ w.grownBy w' (some g) := by
  have u1 : IntKind.i64.wrap (2 * (most : Int)) = 2 * (most : Int) := wrap_is rfl (by omega) (by omega)
  have u2 : IntKind.i64.wrap (2 * (most : Int) + 1) = 2 * (most : Int) + 1 := wrap_is rfl (by omega) (by omega)
  go_enter Try.func115, Try.ntmps115
  go_wp2_with fail
  refine (pick_any w0 g p (2 * (most : Int) + 1) _ h (by omega) (by omega) (by omega)).mono ?_
  rintro e w2 ⟨v, rfl, _, hv, r2, g2⟩
  have hv := hv (by omega)
  have v1 : IntKind.i64.wrap (v - (most : Int)) = v - (most : Int) := wrap_is rfl (by omega) (by omega)
  go_wp2_with fail
  refine (pick_any w0 g _ (2 * (most : Int) + 1) _ r2 (by omega) (by omega) (by omega)).mono ?_
  rintro e w3 ⟨u, rfl, _, hu, r3, g3⟩
  have hu := hu (by omega)
  have v2 : IntKind.i64.wrap (u - (most : Int)) = u - (most : Int) := wrap_is rfl (by omega) (by omega)
  have G3 := Lib.hid (grown_trans_row g2 g3)
  have R3 := Lib.hid r3
  have hx : -(most : Int) ≤ v - (most : Int) ∧ v - (most : Int) ≤ most := by omega
  have hy : -(most : Int) ≤ u - (most : Int) ∧ u - (most : Int) ≤ most := by omega
  clear g2 g3 r2 r3 hv hu h
  have FIN := Lib.hid (fun (x' y' : Int) (h1 : -(most : Int) ≤ x' ∧ x' ≤ most) (hy : -(most : Int) ≤ y' ∧ y' ≤ most) (h2 : ¬(x' = 0 ∧ y' = 0)) => (show ∃ (gx : Nat) (x y : Int), Ending.returned (.slice (some ⟨w3.heap.size, 0, none⟩) 2 2) = .returned (.slice (some ⟨gx, 0, none⟩) 2 2) ∧ RowBlk (w3.alloc (.cells #[.int .i64 x', .int .i64 y'] 3)) gx [x, y] ∧ w.heap.size ≤ gx ∧ ((-(most : Int) ≤ x ∧ x ≤ most) ∧ (-(most : Int) ≤ y ∧ y ≤ most) ∧ ¬(x = 0 ∧ y = 0)) ∧ Rdr w0 (w3.alloc (.cells #[.int .i64 x', .int .i64 y'] 3)) g (p + 2) ∧ w.grownBy (w3.alloc (.cells #[.int .i64 x', .int .i64 y'] 3)) (some g) from
    ⟨w3.heap.size, x', y', rfl, RowBlk.made w3 [x', y'] (by simp), G3.out.size, ⟨h1, hy, h2⟩, R3.out.kept (World.grownBy_alloc w3 _ none) (fun k e => by cases e), grown_new G3.out (World.grownBy_alloc w3 _ none) (fun j e => by cases e)⟩))
  by_cases hx0 : v - (most : Int) = 0
  · by_cases hy0 : u - (most : Int) = 0
    · have f := Lib.hid (FIN.out 1 (u - (most : Int)) (by omega) hy (by omega))
      have d0 : (v - (most : Int) == 0) = true := by simpa using hx0
      have d1 : (u - (most : Int) == 0) = true := by simpa using hy0
      clear FIN G3 R3 hx hy hy0 hx0
      go_wp2_with fail
      go_ret
      exact f.out
    · have f := Lib.hid (FIN.out (v - (most : Int)) (u - (most : Int)) hx hy (by omega))
      have d0 : (v - (most : Int) == 0) = true := by simpa using hx0
      have d1 : (u - (most : Int) == 0) = false := by simpa using hy0
      clear FIN G3 R3 hx hy hy0 hx0
      go_wp2_with fail
      go_ret
      exact f.out
  · have f := Lib.hid (FIN.out (v - (most : Int)) (u - (most : Int)) hx hy (by omega))
    have d0 : (v - (most : Int) == 0) = false := by simpa using hx0
    clear FIN G3 R3 hx hy hx0
    go_wp2_with fail
    go_ret
    exact f.out
end Go.Proofs.Ytdnegamminhbfaa

/- The model's draws of paths. -/
namespace Go.Proofs.Ytdnegamminhbfaa
open Go.RowKit Go.Sort Go.Lib

theorem lit_two (w : World) {B : Nat} (hB : B ≤ w.heap.size) (r1 r2 : List Int) (h1 : r1.length ≤ 16777216) (h2 : r2.length ≤ 16777216) :
    OwnM (((w.alloc (.cells (ints r1).toArray 3)).alloc (.cells (ints r2).toArray 3)).alloc (.cells #[rowW w.heap.size r1, rowW (w.heap.size + 1) r2] 30)) B (some ⟨w.heap.size + 1 + 1, 0, none⟩) 2 2 [w.heap.size, w.heap.size + 1] [r1, r2] := by
  have hl := World.ownsRow_lit (e := 30) (size := 1) (base := B) ((w.alloc (.cells (ints r1).toArray 3)).alloc (.cells (ints r2).toArray 3)) #[rowW w.heap.size r1, rowW (w.heap.size + 1) r2] 2 (by simp; omega) (by unfold maxLen; omega) (by simp)
  have e : ((w.alloc (.cells (ints r1).toArray 3)).alloc (.cells (ints r2).toArray 3)).heap.size = w.heap.size + 1 + 1 := by simp
  rw [e] at hl
  refine ⟨hl, rfl, by simp, fun i hi => ?_⟩
  match i, hi with
  | 0, _ => exact ⟨hB, al_old (al_old (World.alloc_heap_new w _)), h1⟩
  | 1, _ => exact ⟨by show B ≤ w.heap.size + 1; omega, al_old (al_new2 w _ _), h2⟩
theorem wpList_appRowN {ops : Array Oper} {rest : List Oper} {o : Oper} {a : Act} {Q : Exit → Act → World → Prop} {W : World} (hgd : o.guard = none) (s x : Operand)
    (ho : o.op = .call { callee := .builtin .append, args := #[s, x], argTypes := #[23, 23] })
    {B n c m : Nat} {A : Option Addr} {gs : List Nat} {L : List (List Int)} (hs : a.eval s = .slice A n c) (hown : OwnM W B A n c gs L) {b g c2 : Nat} {r : List Int} (hx : a.eval x = .slice (some ⟨b, 0, none⟩) 1 c2) (hc : W.cell? ⟨b, 0, none⟩ = some (rowW g r)) (ht : RowBlk W g r) (hg : B ≤ g) (hni : g ∉ gs)
    (hn : n ≤ 1000000) (hB : B ≤ W.heap.size) (hm : n + 1 = m)
    (h : ∀ A' c' W', OwnM W' B A' m c' (gs ++ [g]) (L ++ [r]) → W.grownBy W' (Value.slice A n c).ownBlock → wpList Try.prog ops Q rest (a.put o.dst (.slice A' m c')) W') : wpList Try.prog ops Q (o :: rest) a W := by
  subst hm
  exact wpList_appRowM hgd s x ho hs hown hx hc ht hg hni hn hB fun A' c' W' h1 h2 _ => h A' c' W' h1 h2

/-- What a draw of a path leaves. -/
def DrawnP (w0 w : World) (g q : Nat) (e : Ending) (w' : World) : Prop :=
  ∃ (A : Option Addr) (n c p' : Nat) (L : List (List Int)), e = .returned (.slice A n c) ∧ FarM w' w.heap.size A n L ∧ stepsB L = true ∧ 2 ≤ n ∧ (n ≤ 9 ∧ n ≤ c) ∧ Rdr w0 w' g p' ∧ p' ≤ q ∧ w.grownBy w' (some g)

set_option maxRecDepth 100000 in
set_option maxHeartbeats 8000000 in
theorem l92Path_any (w0 : World) (g p most : Nat) (w : World) (h : Rdr w0 w g p) (hp : p ≤ 80000) (hm1 : 4 ≤ most) (hm : most ≤ 8) :
    Calls Try.prog 73 #[.pointer (some ⟨g, 0, none⟩), .int .i64 most] w (DrawnP w0 w g (p + 30)) := by
  have hgw := h.lt
  have u1 : IntKind.i64.wrap ((most : Int) - 2) = (most : Int) - 2 := wrap_is rfl (by omega) (by omega)
  go_enter Try.func73, Try.ntmps73
  go_wp2_with fail
  refine (pick_any w0 g p ((most : Int) - 2) _ h (by omega) (by omega) (by omega)).mono ?_
  rintro e w2 ⟨v, rfl, _, hv, r2, g2⟩
  have hv := hv (by omega)
  obtain ⟨m, hmv⟩ : ∃ m : Nat, 2 + v = (m : Int) := ⟨(2 + v).toNat, by omega⟩
  have v1 : IntKind.i64.wrap (2 + v) = (m : Int) := wrap_is hmv (by omega) (by omega)
  have hm2 : 2 ≤ m ∧ m ≤ 7 := by omega
  have hs2 := g2.size
  have H0 := Lib.hid (OwnM.empty w2 (B := w.heap.size) hs2)
  have R0 := Lib.hid (r2.kept (World.grownBy_alloc w2 (.cells #[] 30) none) (fun k e => by cases e))
  have G0 := Lib.hid (grown_new g2 (World.grownBy_alloc w2 (.cells #[] 30) none) (fun k e => by cases e))
  clear r2 g2 h hv hmv u1
  go_wp2_with fail
  go_loopw [6, 7, 8, 9, 10] (fun out x y i _ wr => ∃ (k p' c : Nat) (A : Option Addr) (gs : List Nat) (L : List (List Int)) (vx vy : Int), k ≤ m ∧ i = .int .i64 k ∧ x = .int .i64 vx ∧ y = .int .i64 vy ∧ (-(3 * (k : Int)) ≤ vx ∧ vx ≤ 3 * k) ∧ (-(3 * (k : Int)) ≤ vy ∧ vy ≤ 3 * k) ∧ out = .slice A k c ∧ OwnM wr w.heap.size A k c gs L ∧ stepsB L = true ∧ Rdr w0 wr g p' ∧ p' ≤ p + 1 + 2 * k ∧ w.grownBy wr (some g)) (fun _ _ _ i _ _ => m - (intOf i).toNat)
  case atStart => exact ⟨0, p + 1, 0, _, [], [], 0, 0, Nat.zero_le _, rfl, rfl, rfl, by omega, by omega, rfl, H0.out, rfl, R0.out, by omega, G0.out⟩
  case round =>
    obtain ⟨k, p', c, A, gs, L, vx, vy, hk, rfl, rfl, rfl, hvx, hvy, rfl, ho, hst, hr, hp', hg⟩ := hrel
    have hgr := hg.size
    clear H0 R0 G0
    by_cases hlt : k < m
    · go_wp2_with fail
      refine (l92Step_any w0 g p' 3 _ hr (by omega) (by omega) (by omega)).mono ?_
      rintro e w3 ⟨gx, sx, sy, rfl, rb, hgx, ⟨hsx, hsy, hs0⟩, r3, g3⟩
      have o3 := ho.kept g3 (fun k e => by cases e; exact .inl hgw)
      have gg := grown_trans_row hg g3
      have hgg := gg.size
      have hni : gx ∉ gs := fun hm => by have := (ho.mem hm).2; omega
      have O3 := Lib.hid (o3.al (.cells #[rowW gx [sx, sy]] 30))
      have RB := Lib.hid (rb.kept (grown_of_below (below_alloc (Below.refl w3.heap.size w3) (.cells #[rowW gx [sx, sy]] 30))) (by simp))
      have R3 := Lib.hid r3
      have GG := Lib.hid gg
      have NI := Lib.hid hni
      have V1 : IntKind.i64.wrap (vx + sx) = vx + sx := wrap_is rfl (by omega) (by omega)
      have V2 : IntKind.i64.wrap (vy + sy) = vy + sy := wrap_is rfl (by omega) (by omega)
      have HST := Lib.hid (stepsB_snoc hst (stepRow_two (x := sx) (y := sy) (by omega) (by omega) hs0))
      clear ho o3 gg g3 r3 rb hni hr hg hst hs0
      go_wp2_with (first
        | (at_builtin; refine wpList_appRowM rfl _ _ rfl rfl O3.out (r := [sx, sy]) (g := gx) rfl (box_one _ _ _) RB.out (by omega) NI.out (by omega) (by have := GG.out.size; simp; omega) ?_; intro A5 c5 W5 o5 g5 at5; obtain ⟨z0, z1⟩ := row_cells (RB.out.kept g5 (O3.out.x.ne RB.out).symm)))
      have r5 := (R3.out.kept (World.grownBy_alloc w3 (.cells #[rowW gx [sx, sy]] 30) none) (fun k e => by cases e)).kept g5 (fun j e => by have := O3.out.blk j e; omega)
      have g6 := grown_new (grown_new GG.out (World.grownBy_alloc w3 (.cells #[rowW gx [sx, sy]] 30) none) (fun j e => by cases e)) g5 (fun j e => (O3.out.blk j e).1)
      go_wp2_with fail
      go_roundw
      case rel => first | exact ⟨k + 1, p' + 2, c5, A5, gs ++ [gx], L ++ [[sx, sy]], vx + sx, vy + sy, by omega, by go_num, rfl, rfl, by omega, by omega, rfl, o5, HST.out, r5, by omega, g6⟩ | ((repeat apply Exists.intro); exact ⟨⟨k + 1, p' + 2, c5, A5, gs ++ [gx], L ++ [[sx, sy]], vx + sx, vy + sy, by omega, by go_num, rfl, rfl, by omega, by omega, rfl, o5, HST.out, r5, by omega, g6⟩, rfl⟩)
      case measure => simp [intOf]; omega
    · obtain rfl : k = m := by omega
      have w1 : IntKind.i64.wrap (0 - vx) = -vx := wrap_is (by omega) (by omega) (by omega)
      have w1' : IntKind.i64.wrap (-vx) = -vx := wrap_is rfl (by omega) (by omega)
      have w2' : IntKind.i64.wrap (0 - vy) = -vy := wrap_is (by omega) (by omega) (by omega)
      have w2'' : IntKind.i64.wrap (-vy) = -vy := wrap_is rfl (by omega) (by omega)
      obtain ⟨ax, eax⟩ : ∃ ax, (if vx < -vx then -vx else vx) = ax := ⟨_, rfl⟩
      obtain ⟨ay, eay⟩ : ∃ ay, (if vy < -vy then -vy else vy) = ay := ⟨_, rfl⟩
      have hax : (vx ≤ ax ∧ -vx ≤ ax) ∧ (ax = vx ∨ ax = -vx) := by rw [← eax]; split <;> omega
      have hay : (vy ≤ ay ∧ -vy ≤ ay) ∧ (ay = vy ∨ ay = -vy) := by rw [← eay]; split <;> omega
      have hcase : 9 < ax ∨ (ax ≤ 9 ∧ 9 < ay) ∨ (ax ≤ 9 ∧ ay ≤ 9 ∧ vx = 0 ∧ vy = 0) ∨ (ax ≤ 9 ∧ ay ≤ 9 ∧ vx = 0 ∧ ¬ vy = 0) ∨ (ax ≤ 9 ∧ ay ≤ 9 ∧ ¬ vx = 0) := by omega
      have LIT := Lib.hid (lit_two wr hgr [2, 1] [-1, 2] (by simp) (by simp))
      have LITB := Lib.hid (below_alloc (below_alloc (below_alloc (Below.refl wr.heap.size wr) (.cells (ints [2, 1]).toArray 3)) (.cells (ints [-1, 2]).toArray 3)) (.cells #[rowW wr.heap.size [2, 1], rowW (wr.heap.size + 1) [-1, 2]] 30))
      have HO := Lib.hid ho
      have HR := Lib.hid hr
      have HG := Lib.hid hg
      have HST := Lib.hid hst
      clear ho hr hg hst
      go_upto_region 12 with fail
      go_cut [57] (fun s57 wx => ∃ bad : Bool, s57 = .bool bad ∧ (bad = false → (-9 ≤ vx ∧ vx ≤ 9) ∧ (-9 ≤ vy ∧ vy ≤ 9) ∧ ¬(vx = 0 ∧ vy = 0)) ∧ wx = wr)
      case first =>
        rcases hcase with c1 | c1 | c1 | c1 | c1
        · have d1 : decide (ax > 9) = true := by simp; omega
          go_wp2_with fail
          go_meet
          exact ⟨true, rfl, (fun e => by cases e), rfl⟩
        · have d1 : decide (ax > 9) = false := by simp; omega
          have d2 : decide (ay > 9) = true := by simp; omega
          go_wp2_with fail
          go_meet
          exact ⟨true, rfl, (fun e => by cases e), rfl⟩
        · have d1 : decide (ax > 9) = false := by simp; omega
          have d2 : decide (ay > 9) = false := by simp; omega
          have d3 : (vx == 0) = true := by simp; omega
          have d4 : (vy == 0) = true := by simp; omega
          go_wp2_with fail
          go_meet
          exact ⟨true, rfl, (fun e => by cases e), rfl⟩
        · have d1 : decide (ax > 9) = false := by simp; omega
          have d2 : decide (ay > 9) = false := by simp; omega
          have d3 : (vx == 0) = true := by simp; omega
          have d4 : (vy == 0) = false := by simp; omega
          go_wp2_with fail
          go_meet
          exact ⟨false, rfl, (fun _ => by omega), rfl⟩
        · have d1 : decide (ax > 9) = false := by simp; omega
          have d2 : decide (ay > 9) = false := by simp; omega
          have d3 : (vx == 0) = false := by simp; omega
          go_wp2_with fail
          go_meet
          exact ⟨false, rfl, (fun _ => by omega), rfl⟩
      case rest =>
        obtain ⟨bad, rfl, hbad, rfl⟩ := hcut
        clear eax eay hax hay hcase
        go_upto_if 57 with fail
        go_cut [6, 7, 8] (fun s6 s7 s8 wx => ∃ (A5 : Option Addr) (n5 c5 : Nat) (gs5 : List Nat) (L5 : List (List Int)) (x5 y5 : Int), s6 = .slice A5 n5 c5 ∧ s7 = .int .i64 x5 ∧ s8 = .int .i64 y5 ∧ OwnM wx w.heap.size A5 n5 c5 gs5 L5 ∧ stepsB L5 = true ∧ 2 ≤ n5 ∧ n5 ≤ 7 ∧ ((-9 ≤ x5 ∧ x5 ≤ 9) ∧ (-9 ≤ y5 ∧ y5 ≤ 9) ∧ ¬(x5 = 0 ∧ y5 = 0)) ∧ Rdr w0 wx g p' ∧ w.grownBy wx (some g))
        case first =>
          cases bad with
          | true =>
            go_wp2_with fail
            go_meet
            exact ⟨_, 2, 2, _, _, 1, 3, rfl, rfl, rfl, LIT.out, rfl, by omega, by omega, by omega, HR.out.kept (grown_of_below LITB.out) (fun k e => by cases e), grown_new HG.out (grown_of_below LITB.out) (fun j e => by cases e)⟩
          | false =>
            go_wp2_with fail
            go_meet
            exact ⟨A, k, c, gs, L, vx, vy, rfl, rfl, rfl, HO.out, HST.out, by omega, by omega, hbad trivial, HR.out, HG.out⟩
        case rest =>
          obtain ⟨A5, n5, c5, gs5, L5, x5, y5, rfl, rfl, rfl, o5, st5, hn5, hn6, ⟨hx5, hy5, h05⟩, r5, g5⟩ := hcut
          clear HO HR HG HST LIT LITB hbad hvx hvy w1 w1' w2' w2''
          have hg5 := g5.size
          have v3 : IntKind.i64.wrap (0 - x5) = -x5 := wrap_is (by omega) (by omega) (by omega)
          have v4 : IntKind.i64.wrap (0 - y5) = -y5 := wrap_is (by omega) (by omega) (by omega)
          have v5 : IntKind.i64.wrap (-x5) = -x5 := wrap_is rfl (by omega) (by omega)
          have v6 : IntKind.i64.wrap (-y5) = -y5 := wrap_is rfl (by omega) (by omega)
          have HST := Lib.hid (stepsB_snoc st5 (stepRow_two (x := -x5) (y := -y5) (by omega) (by omega) (by omega)))
          have HO := Lib.hid o5
          have HR := Lib.hid r5
          have HG := Lib.hid g5
          clear o5 r5 g5 st5 hx5 hy5 h05
          go_wp2_with (first
            | (at_builtin; refine wpList_appRowM rfl _ _ rfl rfl ((HO.out.al (.cells (ints [-x5, -y5]).toArray 3)).al _) (r := [-x5, -y5]) (g := wc.heap.size) rfl (box_two _ _ _ _) (row_new wc [-x5, -y5] _ (by simp)) hg5 (by have := HO.out.fresh; exact this) (by omega) (by simp; omega) ?_; intro A6 c6 W6 o6 g6 at6))
          have b6 := below_alloc (below_alloc (Below.refl wc.heap.size wc) (.cells (ints [-x5, -y5]).toArray 3)) (.cells #[rowW wc.heap.size [-x5, -y5]] 30)
          have r6 := (HR.out.kept (grown_of_below b6) (fun k e => by cases e)).kept g6 (fun j e => by have := (HO.out.blk j e).1; omega)
          have G6 := grown_new (grown_new HG.out (grown_of_below b6) (fun j e => by cases e)) g6 (fun j e => (HO.out.blk j e).1)
          have hs6 := G6.size
          clear HO HR HG b6 v3 v4 v5 v6 g6 at6
          generalize L5 ++ [[-x5, -y5]] = L6 at *
          generalize gs5 ++ [wc.heap.size] = gs6 at *
          obtain ⟨n6, hn6'⟩ : ∃ n6, n6 = n5 + 1 := ⟨_, rfl⟩
          refine (pick_any w0 g _ 2 _ r6 (by omega) (by omega) (by omega)).mono ?_
          rintro e w7 ⟨v7, rfl, _, hv7, r7, g7⟩
          have hv7 := hv7 (by omega)
          have o7 := o6.kept g7 (fun j e => by cases e; exact .inl hgw)
          have G7 := grown_trans_row G6 g7
          have hs7 := G7.size
          clear o6 r6 g7 G6
          go_upto_if 71 with fail
          go_cut [6] (fun s6 wx => ∃ (A8 : Option Addr) (n8 c8 : Nat) (gs8 : List Nat) (L8 : List (List Int)), s6 = .slice A8 n8 c8 ∧ OwnM wx w.heap.size A8 n8 c8 gs8 L8 ∧ stepsB L8 = true ∧ 3 ≤ n8 ∧ n8 ≤ 8 ∧ Rdr w0 wx g (p' + 1) ∧ w.grownBy wx (some g))
          case first =>
            have HO := Lib.hid o7
            have HR := Lib.hid r7
            have HG := Lib.hid G7
            clear o7 r7 G7
            by_cases h7 : v7 = 0
            · have d7 : (v7 == 0) = true := by simpa using h7
              clear h7
              go_wp2_with fail
              refine (l7Sorted_any A6 (n5 + 1) c6 L6 _ HO.out.rd (by omega) HST.out).mono ?_
              rintro e w8 ⟨A8, c8, gs8, rfl, o8, b8⟩
              have r8 := HR.out.kept (grown_of_below b8) (fun k e => by cases e)
              have G8 := grown_new HG.out (grown_of_below b8) (fun j e => by cases e)
              have st8 : stepsB (rowsOf (srt (ptsL L6))) = true := stepsB_rows fun s hs => by
                obtain ⟨r, hr, rfl⟩ := List.mem_map.1 ((srt_perm _).mem_iff.1 hs)
                exact (stepRow_pt (List.all_eq_true.1 HST.out r hr)).1
              go_wp2_with fail
              go_meet
              exact ⟨A8, n5 + 1, c8, gs8, _, rfl, o8.lower hs7, st8, by omega, by omega, r8, G8⟩
            · have d7 : (v7 == 0) = false := by simpa using h7
              clear h7
              go_wp2_with fail
              go_meet
              exact ⟨A6, n5 + 1, c6, gs6, _, rfl, HO.out, HST.out, by omega, by omega, HR.out, HG.out⟩
          case rest =>
            clear HST o7 r7 G7 hs7
            obtain ⟨A8, n8, c8, gs8, L8, rfl, o8, st8, hn8, hn9, r8, G8⟩ := hcut
            have HO := Lib.hid o8
            go_wp2_with fail
            refine (pick_any w0 g _ 40 _ r8 (by omega) (by omega) (by omega)).mono ?_
            rintro e w9 ⟨v9, rfl, _, hv9, r9, g9⟩
            have hv9 := hv9 (by omega)
            have o9 := HO.out.kept g9 (fun j e => by cases e; exact .inl hgw)
            have G9 := grown_trans_row G8 g9
            have hs9 := G9.size
            have HO9 := Lib.hid o9
            have HR := Lib.hid r9
            have HG := Lib.hid G9
            have HST := Lib.hid st8
            clear o8 HO r8 g9 G8 o9 r9 G9 st8
            by_cases h1 : v9 = 0
            · have d9 : (v9 == 0) = true := by simpa using h1
              have HS := Lib.hid (stepsB_snoc HST.out (stepRow_two (x := 1) (y := 0) (by omega) (by omega) (by omega)))
              clear h1
              go_wp2_with (first
                | (at_builtin; refine wpList_appRowM rfl _ _ rfl rfl ((HO9.out.al (.cells (ints [1, 0]).toArray 3)).al _) (r := [1, 0]) (g := w9.heap.size) rfl (box_two _ _ _ _) (row_new w9 [1, 0] _ (by simp)) hs9 (by have := HO9.out.fresh; exact this) (by omega) (by simp; omega) ?_; intro A6 c6 W6 o6 g6 at6))
              have b6 := below_alloc (below_alloc (Below.refl w9.heap.size w9) (.cells (ints [1, 0]).toArray 3)) (.cells #[rowW w9.heap.size [1, 0]] 30)
              have r6 := (HR.out.kept (grown_of_below b6) (fun k e => by cases e)).kept g6 (fun j e => by have := (HO9.out.blk j e).1; omega)
              have G6 := grown_new (grown_new HG.out (grown_of_below b6) (fun j e => by cases e)) g6 (fun j e => (HO9.out.blk j e).1)
              have HF := Lib.hid o6.farM
              have hcap := o6.x.cap
              clear o6 b6 g6 at6
              go_wp2_with fail
              go_ret
              exact ⟨A6, n8 + 1, c6, _, _, rfl, HF.out, HS.out, by omega, by omega, r6, by omega, G6⟩
            · have d9 : (v9 == 0) = false := by simpa using h1
              by_cases h2 : v9 = 1
              · have d10 : (v9 == 1) = true := by simpa using h2
                have hcap := HO9.out.x.cap
                obtain ⟨gb, rfl, _, _, _⟩ := HO9.out.at_ (i := 0) (by omega)
                have HF := Lib.hid (HO9.out.farM.tail (by omega))
                have hne : ¬ c8 = 1 := by omega
                have hne2 : ¬ 1 = c8 := by omega
                clear h1 h2
                go_wp2_with fail
                go_ret
                exact ⟨_, n8 - 1, c8 - 1, _, _, rfl, HF.out, stepsB_drop HST.out, by omega, by omega, HR.out, by omega, HG.out⟩
              · have d10 : (v9 == 1) = false := by simpa using h2
                have HF := Lib.hid HO9.out.farM
                have hcap := HO9.out.x.cap
                clear h1 h2
                go_wp2_with fail
                go_ret
                exact ⟨A8, n8, c8, _, _, rfl, HF.out, HST.out, by omega, by omega, HR.out, by omega, HG.out⟩
end Go.Proofs.Ytdnegamminhbfaa

/- What the laws of chapters 6 and 7 draw. -/
namespace Go.Proofs.Ytdnegamminhbfaa
open Go.RowKit Go.Sort Go.Lib

theorem tmod_two {d : Int} (h : d % 2 = 0) : Int.tmod d 2 = 0 := by
  obtain ⟨e, rfl⟩ : ∃ e, d = 2 * e := ⟨d / 2, by omega⟩
  exact Int.mul_tmod_right 2 e
/-- What a law's draw of rows leaves. -/
def DrawnR (w : World) (e : Ending) (w' : World) : Prop :=
  ∃ (A : Option Addr) (n c : Nat) (L : List (List Int)), e = .returned (.slice A n c) ∧ RdM w' A n L ∧ SmallM L ∧ 1 ≤ n ∧ (n ≤ 9 ∧ n ≤ c) ∧ Below w.heap.size w w'
theorem drawnR_of {w0 w' : World} {A : Option Addr} {n c B g q : Nat} {L : List (List Int)} (h : FarM w' B A n L) (hs : stepsB L = true) (h2 : 2 ≤ n) (h9 : n ≤ 9 ∧ n ≤ c) (hr : Rdr w0 w' g q) : DrawnR w0 (.returned (.slice A n c)) w' :=
  ⟨A, n, c, L, rfl, h.rd, small_steps hs (by rw [h.1]; omega), by omega, h9, hr.bel_⟩

set_option maxHeartbeats 1000000 in
theorem drawOrderMost_any (A : Option Addr) (n c : Nat) (bs : List Int) (w : World) (h : RdB w A n bs) (hb : Bytes bs) (hn : n ≤ 1048576) (hc : n ≤ c) :
    Calls Try.prog 26 #[.slice A n c] w (DrawnR w) := by
  go_enter Try.func26, Try.ntmps26
  go_wp2_with fail
  refine (l6Open_any A n c bs _ h hb hn hc).mono ?_
  rintro e w1 ⟨g, rfl, _, _, r1, _⟩
  have hl := r1.lt
  go_wp2_with fail
  refine (pick_any w g _ 12 _ r1 (by omega) (by omega) (by omega)).mono ?_
  rintro e w2 ⟨v, rfl, _, hv, r2, g2⟩
  have hv := hv (by omega)
  obtain ⟨m, hm⟩ : ∃ m : Nat, 5 + v / 11 * 2 = (m : Int) := ⟨(5 + v / 11 * 2).toNat, by omega⟩
  go_wp2_with fail
  first | rw [hm] | skip
  refine (l92Path_any w g _ m _ r2 (by omega) (by omega) (by omega)).mono ?_
  rintro e w3 ⟨A2, n2, c2, p2, L2, rfl, f3, st3, hn2, hn9, r3, hp3, g3⟩
  go_wp2_with fail
  go_ret
  exact drawnR_of f3 st3 hn2 hn9 r3
set_option maxHeartbeats 1000000 in
theorem drawOrderLattice_any (A : Option Addr) (n c : Nat) (bs : List Int) (w : World) (h : RdB w A n bs) (hb : Bytes bs) (hn : n ≤ 1048576) (hc : n ≤ c) :
    Calls Try.prog 31 #[.slice A n c] w (DrawnR w) := by
  go_enter Try.func31, Try.ntmps31
  go_wp2_with fail
  refine (l6Open_any A n c bs _ h hb hn hc).mono ?_
  rintro e w1 ⟨g, rfl, _, _, r1, _⟩
  have hl := r1.lt
  go_wp2_with fail
  refine (pick_any w g _ 12 _ r1 (by omega) (by omega) (by omega)).mono ?_
  rintro e w2 ⟨v, rfl, _, hv, r2, g2⟩
  have hv := hv (by omega)
  obtain ⟨m, hm⟩ : ∃ m : Nat, 5 + v / 11 * 2 = (m : Int) := ⟨(5 + v / 11 * 2).toNat, by omega⟩
  go_wp2_with fail
  first | rw [hm] | skip
  refine (l92Path_any w g _ m _ r2 (by omega) (by omega) (by omega)).mono ?_
  rintro e w3 ⟨A2, n2, c2, p2, L2, rfl, f3, st3, hn2, hn9, r3, hp3, g3⟩
  go_wp2_with fail
  go_ret
  exact drawnR_of f3 st3 hn2 hn9 r3
end Go.Proofs.Ytdnegamminhbfaa
