/- The model's draws of stars. -/
import Derived.Test.YthpgenkdiokpeaaDraw6
namespace Go.Proofs.Ythpgenkdiokpeaa
open Go.RowKit Go.Sort Go.Lib

theorem grown_set (w : World) (g j : Nat) (v : Value) : w.grownBy (w.setCell ⟨g, j, none⟩ v) (some g) :=
  ⟨rfl, rfl, rfl, by simp, fun k _ hk => heap_setCell_other w ⟨g, j, none⟩ k _ (fun e => hk (by simp [e]))⟩
theorem OwnM.set0 {w : World} {B n c gb k : Nat} {gs : List Nat} {L : List (List Int)} {r : List Int} (h : OwnM w B (some ⟨gb, 0, none⟩) n c gs L) (hn : 0 < n) (hk : RowBlk w k r) (hB : B ≤ k) : FarM (w.setCell ⟨gb, 0, none⟩ (rowW k r)) B (some ⟨gb, 0, none⟩) n (r :: L.drop 1) := by
  have hl := h.n
  have hg := grown_set w gb 0 (rowW k r)
  obtain ⟨g', e, hb, hlt, hc0⟩ := h.at_ hn
  simp only [Option.some.injEq, Addr.mk.injEq, and_true] at e
  subst e
  refine ⟨by simp; omega, fun _ => ⟨gb, 0, rfl, hb, Nat.lt_of_lt_of_le hlt hg.size, fun j hj => ?_⟩⟩
  rw [Nat.zero_add]
  match j, hj with
  | 0, _ => exact ⟨k, hB, World.cell?_setCell_same w ⟨gb, 0, none⟩ (rowW k r) hc0, hk.kept hg (h.x.ne hk).symm⟩
  | j + 1, hj =>
    obtain ⟨g', e, _, _, hc⟩ := h.at_ hj
    cases e
    obtain ⟨q1, q2⟩ := h.rows (j + 1) (by omega)
    have e2 : rowL (r :: L.drop 1) (j + 1) = rowL L (j + 1) := by unfold rowL; simp [List.getD_eq_getElem?_getD]
    rw [e2]
    exact ⟨_, q1, (World.cell?_setCell_other w ⟨gb, 0, none⟩ ⟨gb, j + 1, none⟩ _ (by intro e; injection e; omega)).trans hc, q2.kept hg (h.x.ne q2).symm⟩
/-- Rows of two. -/
def TwoB (L : List (List Int)) : Prop := ∀ r ∈ L, r.length = 2
theorem small_two {L : List (List Int)} (h : TwoB L) (hn : L.length ≤ 1000) : SmallM L := by
  have key : ∀ k, k ≤ L.length → lenTo L k = 2 * k := fun k => by
    induction k with
    | zero => intro _; rfl
    | succ k ih =>
      intro hk
      rw [lenTo_succ (by omega), ih (by omega), h _ (rowL_mem (by omega))]
      omega
  unfold SmallM
  rw [key _ (Nat.le_refl _)]
  omega

set_option maxRecDepth 100000 in
set_option maxHeartbeats 8000000 in
theorem l92Star_any (A0 : Option Addr) (n0 c0 : Nat) (bs : List Int) (w : World) (h : RdB w A0 n0 bs) (hb : Bytes bs) (hn : n0 ≤ 1048576) (hc : n0 ≤ c0) :
    Calls Try.prog 140 #[.slice A0 n0 c0] w (DrawnR w) := by
  go_enter Try.func140, Try.ntmps140
  go_wp2_with fail
  refine (l6Open_any A0 n0 c0 bs _ h hb hn hc).mono ?_
  rintro e w1 ⟨g, rfl, _, _, r1, _⟩
  have hl := r1.lt
  have R1 := Lib.hid (r1.kept (World.grownBy_alloc w1 (.cells #[] 31) none) (fun k e => by cases e))
  clear h hb r1
  go_wp2_with fail
  refine (pick_any w g _ 3 _ R1.out (by omega) (by omega) (by omega)).mono ?_
  rintro e w2 ⟨v2, rfl, _, hv2, r2, g2⟩
  have hv2 := hv2 (by omega)
  have G2 := grown_new (World.grownBy.refl w1 (some g)) (World.grownBy_alloc w1 (.cells #[] 31) none) (fun j e => by cases e)
  have G3 := grown_trans_row G2 g2
  have O2 := (OwnM.empty w1 (B := w1.heap.size) (Nat.le_refl _)).kept g2 (fun j e => by cases e; exact .inl hl)
  clear G2 g2 R1
  go_wp2_with fail
  refine (pick_any w g _ 24 _ r2 (by omega) (by omega) (by omega)).mono ?_
  rintro e w3 ⟨v3, rfl, _, hv3, r3, g3⟩
  have hv3 := hv3 (by omega)
  have O3 := Lib.hid (O2.kept g3 (fun j e => by cases e; exact .inl hl))
  have G4 := Lib.hid (grown_trans_row G3 g3)
  have R3 := Lib.hid r3
  obtain ⟨m, hmv⟩ : ∃ m : Nat, 2 + v2 + v3 / 23 = (m : Int) := ⟨(2 + v2 + v3 / 23).toNat, by omega⟩
  have hm5 : 2 ≤ m ∧ m ≤ 5 := by omega
  have u1 : IntKind.i64.wrap (2 + v2) = 2 + v2 := wrap_is rfl (by omega) (by omega)
  have u2 : IntKind.i64.wrap (v3 / 23) = v3 / 23 := wrap_is rfl (by omega) (by omega)
  have u3 : IntKind.i64.wrap (2 + v2 + v3 / 23) = (m : Int) := wrap_is hmv (by omega) (by omega)
  clear O2 G3 r2 r3 g3
  go_wp2_with fail
  go_loopw [4, 6] (fun out i wr => ∃ (k p' c : Nat) (A : Option Addr) (gs : List Nat) (L : List (List Int)), k ≤ m ∧ i = .int .i64 k ∧ out = .slice A k c ∧ OwnM wr w1.heap.size A k c gs L ∧ TwoB L ∧ Rdr w wr g p' ∧ p' ≤ 2 + 3 * k ∧ w1.grownBy wr (some g)) (fun _ i _ => m - (intOf i).toNat)
  case atStart => exact ⟨0, 2, 0, _, [], [], Nat.zero_le _, rfl, rfl, O3.out, (fun r hr => by cases hr), R3.out, by omega, G4.out⟩
  case round =>
    obtain ⟨k, p', c, A, gs, L, hk, rfl, rfl, ho, h2, hr, hp', hg⟩ := hrel
    have hgr := hg.size
    clear O3 G4 R3 u1 u2 u3 hmv
    by_cases hlt : k < m
    · go_wp2_with fail
      refine (pick_any w g _ 4 _ hr (by omega) (by omega) (by omega)).mono ?_
      rintro e w5 ⟨v5, rfl, _, hv5, r5, g5⟩
      have hv5 := hv5 (by omega)
      have o5 := ho.kept g5 (fun j e => by cases e; exact .inl hl)
      have G5 := grown_trans_row hg g5
      have hs5 := G5.size
      obtain ⟨q, hq⟩ : ∃ q : Nat, 3 + v5 / 3 * 6 = (q : Int) := ⟨(3 + v5 / 3 * 6).toNat, by omega⟩
      have hq9 : 3 ≤ q ∧ q ≤ 9 := by omega
      have u5 : IntKind.i64.wrap (3 + v5 / 3 * 6) = (q : Int) := wrap_is hq (by omega) (by omega)
      clear ho hr hg g5
      go_wp2_with fail
      first | rw [hq] | skip
      refine (l92Step_any w g _ q _ r5 (by omega) (by omega) (by omega)).mono ?_
      rintro e w3 ⟨gx, sx, sy, rfl, rb, hgx, ⟨hsx, hsy, hs0⟩, r3, g3⟩
      have o3 := o5.kept g3 (fun k e => by cases e; exact .inl hl)
      have gg := grown_trans_row G5 g3
      have hgg := gg.size
      have hni : gx ∉ gs := fun hm => by have := (o5.mem hm).2; omega
      have O3 := Lib.hid (o3.al (.cells #[rowW gx [sx, sy]] 31))
      have RB := Lib.hid (rb.kept (grown_of_below (below_alloc (Below.refl w3.heap.size w3) (.cells #[rowW gx [sx, sy]] 31))) (by simp))
      have R3 := Lib.hid r3
      have GG := Lib.hid gg
      have NI := Lib.hid hni
      have HT := Lib.hid (show TwoB (L ++ [[sx, sy]]) from fun r hr => by
        rcases List.mem_append.1 hr with hr | hr
        · exact h2 r hr
        · rw [List.mem_singleton.1 hr]; rfl)
      clear o5 o3 gg g3 r3 rb hni r5 G5 h2 hs0 hsx hsy u5 hq
      go_wp2_with (first
        | (at_builtin; refine wpList_appRowM rfl _ _ rfl rfl O3.out (r := [sx, sy]) (g := gx) rfl (box_one _ _ _) RB.out (by omega) NI.out (by omega) (by have := GG.out.size; simp; omega) ?_; intro A5 c5 W5 o5 g5 at5))
      have r5 := (R3.out.kept (World.grownBy_alloc w3 (.cells #[rowW gx [sx, sy]] 31) none) (fun k e => by cases e)).kept g5 (fun j e => by have := O3.out.blk j e; omega)
      have g6 := grown_new (grown_new GG.out (World.grownBy_alloc w3 (.cells #[rowW gx [sx, sy]] 31) none) (fun j e => by cases e)) g5 (fun j e => (O3.out.blk j e).1)
      go_wp2_with fail
      go_roundw
      case rel => first | exact ⟨k + 1, _, c5, A5, gs ++ [gx], L ++ [[sx, sy]], by omega, by go_num, rfl, o5, HT.out, r5, by omega, g6⟩ | ((repeat apply Exists.intro); exact ⟨⟨k + 1, _, c5, A5, gs ++ [gx], L ++ [[sx, sy]], by omega, by go_num, rfl, o5, HT.out, r5, by omega, g6⟩, rfl⟩)
      case measure => simp [intOf]; omega
    · obtain rfl : k = m := by omega
      have HO := Lib.hid ho
      have HG := Lib.hid hg
      clear ho hg
      go_wp2_with fail
      refine (pick_any w g _ 30 _ hr (by omega) (by omega) (by omega)).mono ?_
      rintro e w9 ⟨v9, rfl, _, hv9, r9, g9⟩
      have hv9 := hv9 (by omega)
      have o9 := HO.out.kept g9 (fun j e => by cases e; exact .inl hl)
      have G9 := grown_trans_row HG.out g9
      have hs9 := G9.size
      have HO9 := Lib.hid o9
      have HR := Lib.hid r9
      have H2 := Lib.hid h2
      have HL := Lib.hid o9.n
      clear HO HG hr g9 o9 r9 G9 h2
      have hcap := HO9.out.x.cap
      by_cases h1 : v9 = 0
      · have d9 : (v9 == 0) = true := by simpa using h1
        obtain ⟨gb, rfl, hgb1, hgb2, hc0⟩ := HO9.out.at_ (i := 0) (by omega)
        have OA := HO9.out.al (.cells (ints [0, 0]).toArray 3)
        have hfr : (w9.alloc (.cells #[.int .i64 0, .int .i64 0] 3)).frozen? ⟨gb, 0, none⟩ = false := World.ownsRow.frozenAt OA.row 0
        have hcA : (w9.alloc (.cells #[.int .i64 0, .int .i64 0] 3)).cell? ⟨gb, 0, none⟩ = some (rowW (gs.getD 0 0) (rowL L 0)) := ((below_alloc (Below.refl w9.heap.size w9) (.cells (ints [0, 0]).toArray 3)).cell (p := ⟨gb, 0, none⟩) hgb2).trans hc0
        have hF := Lib.hid (OA.set0 (by omega) (RowBlk.made w9 [0, 0] (by simp)) hs9)
        have HR2 := Lib.hid ((HR.out.kept (grown_of_below (below_alloc (Below.refl w9.heap.size w9) (.cells (ints [0, 0]).toArray 3))) (fun k e => by cases e)).kept (grown_set _ gb 0 (rowW w9.heap.size [0, 0])) (fun j e => by cases e; omega))
        have HS := Lib.hid (show SmallM ([0, 0] :: L.drop 1) from small_two (fun r hr => by
          rcases List.mem_cons.1 hr with rfl | hr
          · rfl
          · exact H2.out r (List.mem_of_mem_drop hr)) (by have := HL.out; simp; omega))
        clear h1 OA hc0 HO9 HR H2 HL
        go_wp2_with fail
        go_ret
        have eW := World.setCell_alloc_past (w := w9) (.cells (ints [0, 0]).toArray 3) gb 0 (rowW w9.heap.size [0, 0]) hgb2
        have hF2 := hF.out.rd
        have hR2 := HR2.out.bel_
        rw [eW] at hF2 hR2
        exact ⟨_, k, _, _, rfl, hF2, HS.out, by omega, by omega, hR2⟩
      · have d9 : (v9 == 0) = false := by simpa using h1
        have HF := Lib.hid HO9.out.rd
        clear h1
        go_wp2_with fail
        go_ret
        exact ⟨A, k, c, _, rfl, HF.out, small_two H2.out (by have := HL.out; omega), by omega, by omega, HR.out.bel_⟩
theorem drawZonoPath_any (A : Option Addr) (n c : Nat) (bs : List Int) (w : World) (h : RdB w A n bs) (hb : Bytes bs) (hn : n ≤ 1048576) (hc : n ≤ c) :
    Calls Try.prog 80 #[.slice A n c] w (DrawnR w) := by
  go_enter Try.func80, Try.ntmps80
  go_wp2_with fail
  refine (l92Star_any A n c bs _ h hb hn hc).mono ?_
  rintro e w1 ⟨A2, n2, c2, L, rfl, r1, hs, hn1, hn9, b1⟩
  go_wp2_with fail
  go_ret
  exact ⟨A2, n2, c2, L, rfl, r1, hs, hn1, hn9, b1⟩
theorem drawZonoArea_any (A : Option Addr) (n c : Nat) (bs : List Int) (w : World) (h : RdB w A n bs) (hb : Bytes bs) (hn : n ≤ 1048576) (hc : n ≤ c) :
    Calls Try.prog 84 #[.slice A n c] w (DrawnR w) := by
  go_enter Try.func84, Try.ntmps84
  go_wp2_with fail
  refine (l92Star_any A n c bs _ h hb hn hc).mono ?_
  rintro e w1 ⟨A2, n2, c2, L, rfl, r1, hs, hn1, hn9, b1⟩
  go_wp2_with fail
  go_ret
  exact ⟨A2, n2, c2, L, rfl, r1, hs, hn1, hn9, b1⟩
theorem drawZonoPieces_any (A : Option Addr) (n c : Nat) (bs : List Int) (w : World) (h : RdB w A n bs) (hb : Bytes bs) (hn : n ≤ 1048576) (hc : n ≤ c) :
    Calls Try.prog 87 #[.slice A n c] w (DrawnR w) := by
  go_enter Try.func87, Try.ntmps87
  go_wp2_with fail
  refine (l92Star_any A n c bs _ h hb hn hc).mono ?_
  rintro e w1 ⟨A2, n2, c2, L, rfl, r1, hs, hn1, hn9, b1⟩
  go_wp2_with fail
  go_ret
  exact ⟨A2, n2, c2, L, rfl, r1, hs, hn1, hn9, b1⟩
theorem drawZonoInside_any (A : Option Addr) (n c : Nat) (bs : List Int) (w : World) (h : RdB w A n bs) (hb : Bytes bs) (hn : n ≤ 1048576) (hc : n ≤ c) :
    Calls Try.prog 89 #[.slice A n c] w (DrawnR w) := by
  go_enter Try.func89, Try.ntmps89
  go_wp2_with fail
  refine (l92Star_any A n c bs _ h hb hn hc).mono ?_
  rintro e w1 ⟨A2, n2, c2, L, rfl, r1, hs, hn1, hn9, b1⟩
  go_wp2_with fail
  go_ret
  exact ⟨A2, n2, c2, L, rfl, r1, hs, hn1, hn9, b1⟩
end Go.Proofs.Ythpgenkdiokpeaa
