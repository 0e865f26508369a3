/- The model's draws of chapter 8: solids, corners. -/
import Derived.Test.YtdnegamminhbfaaRead
import Derived.Test.YtdnegamminhbfaaSolS3
import Derived.Deep.RegionLaw
import Derived.Deep.DeepCutAuto
namespace Go.Proofs.Ytdnegamminhbfaa
open Go.RowKit

/-- Ints that lie in a block from B on. -/
def FarI (w : World) (B : Nat) (A : Option Addr) (n : Nat) (xs : List Int) : Prop :=
  xs.length = n ∧ (0 < n → ∃ b off, A = some ⟨b, off, none⟩ ∧ B ≤ b ∧ b < w.heap.size ∧ ∀ j, j < n → w.cell? ⟨b, off + j, none⟩ = some (.int .i64 (xs.getD j 0)))
theorem FarI.kept {w w' : World} {B n : Nat} {A : Option Addr} {xs : List Int} {row : Option Nat} (h : FarI w B A n xs) (hg : w.grownBy w' row) (hr : ∀ k, row = some k → k < B ∨ w.heap.size ≤ k) : FarI w' B A n xs := by
  refine ⟨h.1, fun hn => ?_⟩
  obtain ⟨b, off, rfl, hb, hlt, hc⟩ := h.2 hn
  exact ⟨b, off, rfl, hb, Nat.lt_of_lt_of_le hlt hg.size, fun j hj => hg.cell (hc j hj) (fun e => by have := hr _ e.symm; dsimp only at this; omega)⟩
theorem FarI.same {w w' : World} {B n : Nat} {A : Option Addr} {xs : List Int} (h : FarI w B A n xs) (hb : Below w.heap.size w w') : FarI w' B A n xs := h.kept (grown_of_below hb) (fun k e => by cases e)
theorem FarI.lower {w : World} {B B' n : Nat} {A : Option Addr} {xs : List Int} (h : FarI w B A n xs) (hB : B' ≤ B) : FarI w B' A n xs :=
  ⟨h.1, fun hn => by
    obtain ⟨b, off, e, hb, hlt, hc⟩ := h.2 hn
    exact ⟨b, off, e, Nat.le_trans hB hb, hlt, hc⟩⟩
theorem FarI.rd {w : World} {B n : Nat} {A : Option Addr} {xs : List Int} (h : FarI w B A n xs) : Rd w A n xs :=
  ⟨h.1, fun hn => by
    obtain ⟨b, off, e, _, hlt, hc⟩ := h.2 hn
    exact ⟨b, off, e, hlt, hc⟩⟩
theorem Own.farI {w : World} {B n c : Nat} {A : Option Addr} {xs : List Int} (h : Own w B A n c xs) : FarI w B A n xs := by
  refine ⟨h.len, fun h0 => ?_⟩
  obtain ⟨g, rfl, hb, hlt⟩ := h.form h0
  exact ⟨g, 0, rfl, hb, hlt, fun j hj => by rw [Nat.zero_add]; exact h.cell j hj⟩
theorem FarI.take {w : World} {B n k : Nat} {A : Option Addr} {xs : List Int} (h : FarI w B A n xs) (hk : k ≤ n) : FarI w B A k (xs.take k) := by
  refine ⟨by simp [h.1]; omega, fun h0 => ?_⟩
  obtain ⟨b, off, rfl, hb, hlt, hc⟩ := h.2 (by omega)
  refine ⟨b, off, rfl, hb, hlt, fun j hj => ?_⟩
  rw [hc j (by omega)]
  simp [List.getD_eq_getElem?_getD, hj]

/-- What a draw of a list leaves. -/
def DrawnI (w0 w : World) (g top q : Nat) (e : Ending) (w' : World) : Prop :=
  ∃ (A : Option Addr) (n c p' : Nat) (xs : List Int), e = .returned (.slice A n c) ∧ FarI w' w.heap.size A n xs ∧ n ≤ top ∧ Rdr w0 w' g p' ∧ p' ≤ q ∧ w.grownBy w' (some g)

theorem min_any (x y : Int) : ∃ m, (if y < x then y else x) = m := ⟨_, rfl⟩

set_option maxRecDepth 100000 in
set_option maxHeartbeats 4000000 in
theorem l92Solid_any (w0 : World) (g p : Nat) (w : World) (h : Rdr w0 w g p) (hp : p ≤ 800000) :
    Calls Try.prog 111 #[.pointer (some ⟨g, 0, none⟩)] w (DrawnI w0 w g 6 (p + 20)) := by
  have hl := Own.lit w (Nat.le_refl _) [] (by simp)
  have hglt := h.lt
  have h0 := h.kept (World.grownBy_alloc w (.cells #[] 3) none) (fun k e => by cases e)
  have g0 := World.grownBy_alloc w (.cells #[] 3) (some g)
  go_enter Try.func111, Try.ntmps111
  go_wp2_with fail
  refine (pick_any w0 g p 9 _ h0 (by omega) (by omega) (by omega)).mono ?_
  rintro e w1 ⟨v, rfl, _, hv, r1, g1⟩
  have hv := hv (by omega)
  have gg1 := grown_trans_row g0 g1
  have o1 := hl.far g1 (fun j e => by cases e; exact .inl hglt)
  have v1 : IntKind.i64.wrap (2 + v) = 2 + v := wrap_is rfl (by omega) (by omega)
  clear hl h0 g0 g1 h
  go_wp2_with fail
  go_loopw [3, 5] (fun l i wr => ∃ (k p' c : Nat) (A : Option Addr) (xs : List Int), k ≤ 6 ∧ i = .int .i64 k ∧ l = .slice A k c ∧ Own wr w.heap.size A k c xs ∧ Rdr w0 wr g p' ∧ p' ≤ p + 1 + 2 * k ∧ w.grownBy wr (some g)) (fun _ i _ => 6 - (intOf i).toNat)
  case atStart => exact ⟨0, _, _, _, [], Nat.zero_le _, rfl, rfl, o1, r1, by omega, gg1⟩
  case round =>
    clear o1 r1 gg1
    obtain ⟨k, p', c, A, xs, hk, rfl, rfl, ho, hr, hp', hg⟩ := hrel
    by_cases hlt : k < 6
    · have d0 : decide ((k : Int) < 6) = true := by rw [decide_eq_true_iff]; omega
      go_wp2_with fail
      refine (pick_any w0 g p' 4 _ hr (by omega) (by omega) (by omega)).mono ?_
      rintro e w2 ⟨u, rfl, _, hu, r2, g2⟩
      have hu := hu (by omega)
      have o2 := ho.far g2 (fun j e => by cases e; exact .inl hglt)
      have g3 := grown_trans_row hg g2
      have v2 : IntKind.i64.wrap (2 + v + u) = 2 + v + u := wrap_is rfl (by omega) (by omega)
      clear ho hr hg g2
      go_wp2_with fail
      refine (pick_any w0 g _ 4 _ r2 (by omega) (by omega) (by omega)).mono ?_
      rintro e w3 ⟨z, rfl, _, hz, r3, g4⟩
      have hz := hz (by omega)
      have o3 := o2.far g4 (fun j e => by cases e; exact .inl hglt)
      have g5 := grown_trans_row g3 g4
      have hs3 := g5.size
      have v3 : IntKind.i64.wrap (2 + v + u - z) = 2 + v + u - z := wrap_is rfl (by omega) (by omega)
      obtain ⟨m1, hm1⟩ : ∃ m, (if 2 + v + u - z > 1 then 2 + v + u - z else 1) = m := ⟨_, rfl⟩
      have hm1' : (if 1 < 2 + v + u - z then 2 + v + u - z else 1) = m1 := hm1
      obtain ⟨m2, hm2⟩ : ∃ m, (if m1 < 12 then m1 else 12) = m := ⟨_, rfl⟩
      have oa := o3.al (.cells #[.int .i64 m2] 3)
      clear o2 g3 g4 r2 hu hz
      go_wp2_with (at_builtin; refine wpList_app rfl (.tmp 14) (.tmp 24) rfl rfl oa rfl (rd_one _ _) (by omega) (by simp; omega) ?_; intro A' c' W' ho' hg')
      have r4 := (r3.kept (World.grownBy_alloc w3 (.cells #[.int .i64 m2] 3) none) (fun k e => by cases e)).kept hg' (fun j e => by have := oa.row j e; omega)
      have g6 := grown_new (grown_new g5 (World.grownBy_alloc w3 (.cells #[.int .i64 m2] 3) none) (fun j e => by cases e)) hg' (fun j e => (oa.row j e).1)
      go_roundw
      case rel =>
        first
          | exact ⟨k + 1, _, c', A', xs ++ [m2], by omega, by go_num, rfl, ho', r4, by omega, g6⟩
          | ((repeat apply Exists.intro); exact ⟨⟨k + 1, _, c', A', xs ++ [m2], by omega, by go_num, rfl, ho', r4, by omega, g6⟩, rfl⟩)
      case measure => simp [intOf]; omega
    · obtain rfl : k = 6 := by omega
      have hcap := ho.cap
      go_wp2_with fail
      refine (pick_any w0 g _ 40 _ hr (by omega) (by omega) (by omega)).mono ?_
      rintro e w3 ⟨v3, rfl, _, hv3, r3, g3⟩
      have hv3 := hv3 (by omega)
      have o3 := ho.far g3 (fun j e => by cases e; exact .inl hglt)
      have gg3 := grown_trans_row hg g3
      clear ho hr hg g3
      by_cases h30 : v3 = 0
      · subst h30
        go_wp2_with fail
        refine (pick_any w0 g _ 6 _ r3 (by omega) (by omega) (by omega)).mono ?_
        rintro e w4 ⟨v4, rfl, hv40, hv4, r4, g4⟩
        have hv4 := hv4 (by omega)
        have o4 := o3.far g4 (fun j e => by cases e; exact .inl hglt)
        have gg4 := grown_trans_row gg3 g4
        obtain ⟨q, rfl⟩ : ∃ q : Nat, v4 = q := ⟨v4.toNat, by omega⟩
        obtain ⟨d, rfl, hd1, hd2⟩ := o4.form (by omega)
        have hqk : q < 6 := by omega
        have gq : (q : Int) < 6 := by omega
        have gq0 : (0 : Int) ≤ (q : Int) := by omega
        have hcx := o4.cell q hqk
        have hfx := o4.free q
        have o6 := o4.stored q 13
        have r6 := r4.kept o6.2 (fun j e => by cases e; omega)
        have gg6 := grown_new gg4 o6.2 (fun j e => by cases e; exact hd1)
        generalize xs.getD q 0 = yq at hcx
        clear o3 o4 g4 gg3 gg4 r3 r4
        go_wp2_with fail
        try go_simp
        try go_wp2_with fail
        go_ret
        exact ⟨_, 6, c, _, _, rfl, o6.1.farI, by omega, r6, by omega, gg6⟩
      · have d1 : (v3 == 0) = false := by simpa using h30
        by_cases h31 : v3 = 1
        · subst h31
          have hc5 : (5 : Int) ≤ (c : Int) := by omega
          have hc5' : 5 ≤ c := by omega
          go_wp2_with fail
          go_ret
          exact ⟨A, 5, c, _, _, rfl, o3.farI.take (k := 5) (by omega), by omega, r3, by omega, gg3⟩
        · have d2 : (v3 == 1) = false := by simpa using h31
          go_wp2_with fail
          go_ret
          exact ⟨A, 6, c, _, xs, rfl, o3.farI, by omega, r3, by omega, gg3⟩
set_option maxRecDepth 100000 in
set_option maxHeartbeats 4000000 in
theorem specSolidNamed_own (A : Option Addr) (n c : Nat) (xs : List Int) (A1 : Option Addr) (n1 c1 : Nat) (cs : List Int) (w : World) (h : Rd w A n xs) (hn : n ≤ 1048576) (h1 : Rd w A1 n1 cs) (hn1 : n1 ≤ 1048576) :
    Calls Try.prog 54 #[.slice A n c, .slice A1 n1 c1] w fun e w' => ∃ (A' : Option Addr) (n' c' : Nat), e = .returned (.tuple #[.slice A' n' c', .bool (namB xs cs)]) ∧ Own w' w.heap.size A' n' c' (namM xs cs) ∧ n' ≤ 1048576 ∧ Below w.heap.size w w' := by
  cases hb : solB xs with
  | false =>
    have HS := Lib.hid hb
    have HB := Lib.hid (namB_no1 (cs := cs) hb)
    have HM := Lib.hid (namM_no HB.out)
    clear hb h1
    go_enter Try.func54, Try.ntmps54
    go_wp2_with fail
    refine (l8Solid_any _ _ _ xs _ h hn).mono ?_
    rintro e w1 ⟨rfl, b1⟩
    rw [HS.out]
    go_wp2_with fail
    refine bodyPost_ret (results_tmp2 rfl _ _ _) rfl ?_
    exact ⟨_, 0, 0, ret_lb HB.out, by rw [HM.out]; exact Own.lit _ b1.size [] (by simp), by omega, below_alloc b1 _⟩
  | true =>
    have HS := Lib.hid hb
    have hs := sol_of hb
    obtain rfl : n = 6 := by rw [← h.1, hs.len]
    by_cases h4 : n1 = 4
    · subst h4
      have HL := Lib.hid h1.1
      obtain ⟨b, off, rfl, hbl, hc⟩ := h1.2 (by omega)
      have HH := Lib.hid h
      have HH1 := Lib.hid h1
      have HC := Lib.hid hc
      clear hb hs h h1 hc
      go_enter Try.func54, Try.ntmps54
      go_wp2_with fail
      refine (l8Solid_any _ _ _ xs _ HH.out hn).mono ?_
      rintro e w1 ⟨rfl, b1⟩
      rw [HS.out]
      go_wp2_with fail
      go_loopw [6, 7] (fun s i wr => ∃ k : Nat, k ≤ 4 ∧ i = .int .i64 k ∧ s = .int .i64 (mskI cs k) ∧ (∀ j, j < k → inB (cs.getD j 0) 0 3 = true) ∧ Below w.heap.size w wr) (fun _ i _ => 4 - (intOf i).toNat)
      case atStart => exact ⟨0, by omega, rfl, rfl, fun j hj => absurd hj (by omega), b1⟩
      case round =>
        obtain ⟨k, hk, rfl, rfl, hup, hb⟩ := hrel
        have HU := Lib.hid hup
        clear hup b1
        by_cases hlt : k < 4
        · have y0 := (hb.cell (p := ⟨b, off + k, none⟩) hbl).trans (HC.out k hlt)
          have HK := Lib.hid (show mskI cs (k + 1) = bits .or .i64 (mskI cs k) (IntKind.i64.wrap (2 ^ (cs.getD k 0).toNat)) from rfl)
          obtain ⟨x, ex⟩ : ∃ x, x = cs.getD k 0 := ⟨_, rfl⟩
          rw [← ex] at y0 HK
          have EX := Lib.hid ex
          obtain ⟨z2, ez2⟩ : ∃ z2, z2 = mskI cs (k + 1) := ⟨_, rfl⟩
          rw [← ez2] at HK
          have EZ := Lib.hid ez2
          clear ez2
          generalize mskI cs k = z at *
          have g1 : (k : Int) < 4 := by omega
          have d0 : decide ((k : Int) < 4) = true := by rw [decide_eq_true_iff]; omega
          have d0' : decide (k < 4) = true := by rw [decide_eq_true_iff]; omega
          by_cases hin : inB x 0 3 = true
          · have HI := Lib.hid hin
            have hxx := inB_true hin
            obtain ⟨p, hp⟩ : ∃ p, IntKind.i64.wrap (2 ^ x.toNat) = p := ⟨_, rfl⟩
            have hz2 : bits .or .i64 z p = z2 := by rw [← hp]; exact HK.out.symm
            have g2 : 0 ≤ x := hxx.1
            have g3 : x ≤ 64 := by omega
            clear hxx hin ex HK
            go_wp2_with (go_at_call 101; refine (l6In_is HI.out _).mono ?_; rintro e w' ⟨rfl, rfl⟩)
            go_roundw
            case rel =>
              have hT : ∀ j, j < k + 1 → inB (cs.getD j 0) 0 3 = true := fun j hj => by
                by_cases e : j = k
                · rw [e, ← EX.out]; exact HI.out
                · exact HU.out j (by omega)
              first
                | exact ⟨k + 1, by omega, by go_num, by rw [EZ.out], hT, hb⟩
                | ((repeat apply Exists.intro); exact ⟨⟨k + 1, by omega, by go_num, by rw [EZ.out], hT, hb⟩, rfl⟩)
            case measure => simp [intOf]; omega
          · rw [Bool.not_eq_true] at hin
            have HI := Lib.hid hin
            have HB := Lib.hid (namB_no2 (xs := xs) (corn_out hlt (by rw [← EX.out]; exact hin)))
            have HM := Lib.hid (namM_no HB.out)
            clear hin ex HK
            go_wp2_with (go_at_call 101; refine (l6In_is HI.out _).mono ?_; rintro e w' ⟨rfl, rfl⟩)
            refine bodyPost_ret (results_tmp2 rfl _ _ _) rfl ?_
            exact ⟨_, 0, 0, ret_lb HB.out, by rw [HM.out]; exact Own.lit _ hb.size [] (by simp), by omega, below_alloc hb _⟩
        · obtain rfl : k = 4 := by omega
          have hmc := msk_corn HL.out HU.out
          by_cases h15 : mskI cs 4 = 15
          · rw [decide_eq_true h15] at hmc
            have HB := Lib.hid (namB_yes HS.out hmc.symm)
            have HM := Lib.hid (namM_yes HB.out)
            have hN := fun W (hW : Below w.heap.size w W) => l8Named_any A c xs (some ⟨b, off, none⟩) c1 cs W (HH.out.same hW) (HH1.out.same hW) (corn_mem hmc.symm)
            rw [h15]
            clear hmc h15
            go_wp2_with fail
            refine (hN _ hb).mono ?_
            rintro e w5 ⟨A5, c5, rfl, o5, b5⟩
            go_wp2_with fail
            refine bodyPost_ret (results_tmp2 rfl _ _ _) rfl ?_
            exact ⟨A5, 6, c5, ret_lb HB.out, by rw [HM.out]; exact o5.lower hb.size, by omega, below_then hb b5⟩
          · rw [decide_eq_false h15] at hmc
            have HB := Lib.hid (namB_no2 (xs := xs) hmc.symm)
            have HM := Lib.hid (namM_no HB.out)
            have d15 : (mskI cs 4 != 15) = true := by simpa using h15
            generalize mskI cs 4 = z at *
            clear hmc
            go_wp2_with fail
            refine bodyPost_ret (results_tmp2 rfl _ _ _) rfl ?_
            exact ⟨_, 0, 0, ret_lb HB.out, by rw [HM.out]; exact Own.lit _ hb.size [] (by simp), by omega, below_alloc hb _⟩
    · have HB := Lib.hid (namB_no2 (xs := xs) (show cornB cs = false by cases hc : cornB cs with | false => rfl | true => exact absurd ((c24_at cs (corn_mem hc)).1) (by rw [h1.1]; exact h4)))
      have HM := Lib.hid (namM_no HB.out)
      have d4 : ((n1 : Int) != 4) = true := by simp; omega
      clear hb hs h1
      go_enter Try.func54, Try.ntmps54
      go_wp2_with fail
      refine (l8Solid_any _ _ _ xs _ h hn).mono ?_
      rintro e w1 ⟨rfl, b1⟩
      rw [HS.out]
      go_wp2_with fail
      refine bodyPost_ret (results_tmp2 rfl _ _ _) rfl ?_
      exact ⟨_, 0, 0, ret_lb HB.out, by rw [HM.out]; exact Own.lit _ b1.size [] (by simp), by omega, below_alloc b1 _⟩

theorem slE {A : Option Addr} {m n c : Nat} (h : m = n) : Value.slice A m c = .slice A n c := by rw [h]
theorem Own.asI {w : World} {B B' m n c : Nat} {A : Option Addr} {xs : List Int} (h : Own w B A m c xs) (hm : m = n) (hB : B' ≤ B) : Own w B' A n c xs := by subst hm; exact h.lower hB
theorem lit2nd (wq : World) (o : Obj) : Own ((wq.alloc o).alloc (.cells #[] 3)).drew wq.heap.size (some ⟨wq.heap.size + 1, 0, none⟩) 0 0 [] := by
  have h := (Own.lit (wq.alloc o) (B := wq.heap.size) (by simp) [] (by simp)).dr
  rw [World.size_alloc] at h
  exact h
theorem litAft (wq w1 : World) (x : Int) {n c : Nat} (g1 : ((wq.alloc (.cells #[] 3)).alloc (.cells #[.int .i64 x] 3)).drew.grownBy w1 (Value.slice (some ⟨wq.heap.size, 0, none⟩) n c).ownBlock) : Rd w1 (some ⟨wq.heap.size + 1, 0, none⟩) 1 [x] := by
  have h := (rd_one (wq.alloc (.cells #[] 3)) x).dr
  rw [World.size_alloc] at h
  refine Rd.kept h g1 fun b off e => ?_
  injection e with e
  injection e with e _ _
  simp [Value.ownBlock]
  omega
theorem litAhd (wq w1 : World) (x : Int) {n c : Nat} (g1 : ((wq.alloc (.cells #[.int .i64 x] 3)).alloc (.cells #[] 3)).drew.grownBy w1 (Value.slice (some ⟨wq.heap.size + 1, 0, none⟩) n c).ownBlock) : Rd w1 (some ⟨wq.heap.size, 0, none⟩) 1 [x] := by
  refine Rd.kept ((rd_one wq x).al (.cells #[] 3)).dr g1 fun b off e => ?_
  injection e with e
  injection e with e _ _
  simp [Value.ownBlock]
  omega

/-- What a draw of four corners leaves. -/
def DrawnC (w0 w : World) (g q : Nat) (e : Ending) (w' : World) : Prop :=
  ∃ (A : Option Addr) (c p' : Nat) (xs : List Int), e = .returned (.slice A 4 c) ∧ FarI w' w.heap.size A 4 xs ∧ Rdr w0 w' g p' ∧ p' ≤ q ∧ w.grownBy w' (some g)
def DrawnL (w : World) (e : Ending) (w' : World) : Prop :=
  ∃ (A' : Option Addr) (n' c' : Nat) (xs : List Int) (z : Int), e = .returned (.tuple #[.slice A' n' c', .int .i64 z]) ∧ Rd w' A' n' xs ∧ n' ≤ 1048576 ∧ Below w.heap.size w w'
def DrawnN (w : World) (e : Ending) (w' : World) : Prop :=
  ∃ (z : Int), e = .returned (.int .i64 z) ∧ -1 ≤ z ∧ z ≤ 5 ∧ Below w.heap.size w w'

set_option maxRecDepth 100000 in
set_option maxHeartbeats 8000000 in
theorem l92Corners_any (w0 : World) (g p : Nat) (w : World) (h : Rdr w0 w g p) (hp : p ≤ 800000) :
    Calls Try.prog 112 #[.pointer (some ⟨g, 0, none⟩)] w (DrawnC w0 w g (p + 20)) := by
  have hl := Own.lit w (Nat.le_refl _) [] (by simp)
  have hglt := h.lt
  have h0 := h.kept (World.grownBy_alloc w (.cells #[] 3) none) (fun k e => by cases e)
  have g0 := World.grownBy_alloc w (.cells #[] 3) (some g)
  go_enter Try.func112, Try.ntmps112
  go_wp2_with fail
  go_loopw [3, 4, 5] (fun l i _ wr => ∃ (k p' c gx : Nat) (xs : List Int), k ≤ 4 ∧ i = .int .i64 k ∧ l = .slice (some ⟨gx, 0, none⟩) k c ∧ Own wr w.heap.size (some ⟨gx, 0, none⟩) k c xs ∧ Rdr w0 wr g p' ∧ p' ≤ p + k ∧ w.grownBy wr (some g)) (fun _ i _ _ => 4 - (intOf i).toNat)
  case atStart => exact ⟨0, _, _, _, [], Nat.zero_le _, rfl, rfl, hl, h0, by omega, g0⟩
  case round =>
    clear hl h0 g0 h
    obtain ⟨i, p', c, gx, P, hk, rfl, rfl, ho, hr, hp', hg⟩ := hrel
    by_cases hlt : i < 4
    · have d0 : decide ((i : Int) < 4) = true := by rw [decide_eq_true_iff]; omega
      have v1 : IntKind.i64.wrap ((i : Int) + 1) = (i : Int) + 1 := wrap_is rfl (by omega) (by omega)
      go_wp2_with fail
      refine (pick_any w0 g p' ((i : Int) + 1) _ hr (by omega) (by omega) (by omega)).mono ?_
      rintro e wq ⟨v, rfl, _, hv, r2, g2⟩
      have hv := hv (by omega)
      obtain ⟨q, rfl⟩ : ∃ q : Nat, v = q := ⟨v.toNat, by omega⟩
      have hqi : q ≤ i := by omega
      have o2 := ho.far g2 (fun j e => by cases e; exact .inl hglt)
      have g3 := grown_trans_row hg g2
      have HR := Lib.hid r2
      have HG := Lib.hid g3
      have hgq : w.heap.size ≤ wq.heap.size := g3.size
      have hcap := o2.cap
      have hpl := o2.len
      have HPL := Lib.hid hpl
      have hq0 : wq.heap.size ≤ wq.heap.size := Nat.le_refl _
      have hz0 : ([] : List Int).length ≤ 16777216 := by simp
      obtain ⟨x, hx⟩ : ∃ x : Int, x = (i : Int) := ⟨_, rfl⟩
      have rT := Lib.hid (o2.rd.take (k := q) hqi)
      have rDD := Lib.hid (o2.rd.drop (k := q) hqi)
      have rDA := Lib.hid o2.rd
      subst hx
      clear ho hr hg g2 g3 r2 hv hpl o2
      by_cases hqz : q = 0
      · subst hqz
        have rD := rDA
        clear rDD rDA
        go_wp2_with fail
        go_region_law (first | (refine step_app2 wq (c2 := c) rfl (.tmp 16) (.tmp 19) rfl [] rfl ?_ (P.take 0) rfl ?_ ?_ ?_ ?_; (· first | exact (Own.lit wq hq0 [] hz0).dr | exact ((Own.lit wq hq0 [] hz0).al _).dr | exact lit2nd wq _); (· first | exact (rT.out.al _).dr | exact ((rT.out.al _).al _).dr); (· first | exact (below_alloc (Below.refl _ _) _).drew | exact (below_alloc (below_alloc (Below.refl _ _) _) _).drew); (· first | omega | (simp; done) | (simp; omega)); intro A1 c1 w1' o1 b1 g1; (first | have q1 := litAft wq w1' (i : Int) g1 | have q1 := litAhd wq w1' (i : Int) g1 | skip); clear g1) | (refine step_app2 wq (c2 := 1) rfl (.tmp 20) (.tmp 22) rfl ([] ++ P.take 0) rfl ?_ [(i : Int)] rfl ?_ ?_ ?_ ?_; (· first | exact o1 | exact o1.al _ | exact o1.dr | exact (o1.al _).dr); (· first | exact q1 | exact q1.dr | exact rd_one _ _ | exact (rd_one _ _).dr); (· first | exact b1 | exact b1.drew | exact below_alloc b1 _ | exact (below_alloc b1 _).drew); (· first | omega | (simp; done) | (simp; omega)); intro A2 c2 w2' o2 b2 g2'; clear g2') | (refine step_app2 wq (c2 := c) rfl (.tmp 23) (.tmp 26) rfl ([] ++ P.take 0 ++ [(i : Int)]) rfl ?_ (P) rfl ?_ ?_ ?_ ?_; (· first | exact o2 | exact o2.dr); (· first | exact rD.out.same b2 | exact (rD.out.same b2).dr); (· first | exact b2 | exact b2.drew); (· first | omega | (simp; done) | (simp; omega)); intro A3 c3 w3 o3 b3 g3; clear g3))
        all_goals
            have hlen := o3.len
            have o4 := o3.asI (n := i + 1) (B' := w.heap.size) (by omega) hgq
            have r4 := HR.out.kept (grown_of_below b3) (fun j e => by cases e)
            have g4 := grown_new HG.out (grown_of_below b3) (fun j e => by cases e)
            obtain ⟨g3', rfl, _, _⟩ := o3.form (by omega)
            have HO := Lib.hid (And.intro o4 (And.intro r4 g4))
            clear o4 o3 b3 hlen r4 g4
            go_wp2_with fail
            go_roundw
            case rel =>
              first
                | exact ⟨i + 1, _, c3, g3', _, by omega, by go_num, slE (by omega), HO.out.1, HO.out.2.1, by omega, HO.out.2.2⟩
                | ((repeat apply Exists.intro); exact ⟨⟨i + 1, _, c3, g3', _, by omega, by go_num, slE (by omega), HO.out.1, HO.out.2.1, by omega, HO.out.2.2⟩, rfl⟩)
            case measure => simp [intOf]; omega
      · have e1 : (q : Int) ≤ (c : Int) := by omega
        have e2 : (q : Int) ≤ (i : Int) := by omega
        have e3 : (0 : Int) ≤ (q : Int) := by omega
        by_cases hcq : c = q
        · obtain rfl : i = q := by omega
          subst hcq
          have rD : Hid (Rd wq (some ⟨gx, 0, none⟩) 0 (P.drop c)) := by rw [List.drop_eq_nil_of_le (by rw [HPL.out]; exact Nat.le_refl _)]; exact Rd.nil_ _ _
          clear rDD rDA
          go_wp2_with fail
          go_region_law (first | (refine step_app2 wq (c2 := c) rfl (.tmp 16) (.tmp 19) rfl [] rfl ?_ (P.take c) rfl ?_ ?_ ?_ ?_; (· first | exact (Own.lit wq hq0 [] hz0).dr | exact ((Own.lit wq hq0 [] hz0).al _).dr | exact lit2nd wq _); (· first | exact (rT.out.al _).dr | exact ((rT.out.al _).al _).dr); (· first | exact (below_alloc (Below.refl _ _) _).drew | exact (below_alloc (below_alloc (Below.refl _ _) _) _).drew); (· first | omega | (simp; done) | (simp; omega)); intro A1 c1 w1' o1 b1 g1; simp only [Nat.zero_add, List.nil_append] at o1; (first | have q1 := litAft wq w1' (c : Int) g1 | have q1 := litAhd wq w1' (c : Int) g1 | skip); clear g1) | (refine step_app2 wq (c2 := 1) rfl (.tmp 20) (.tmp 22) rfl (P.take c) rfl ?_ [(c : Int)] rfl ?_ ?_ ?_ ?_; (· first | exact o1 | exact o1.al _ | exact o1.dr | exact (o1.al _).dr); (· first | exact q1 | exact q1.dr | exact rd_one _ _ | exact (rd_one _ _).dr); (· first | exact b1 | exact b1.drew | exact below_alloc b1 _ | exact (below_alloc b1 _).drew); (· first | omega | (simp; done) | (simp; omega)); intro A2 c2 w2' o2 b2 g2'; clear g2') | (refine step_app2 wq (c2 := 0) rfl (.tmp 23) (.tmp 26) rfl (P.take c ++ [(c : Int)]) rfl ?_ (P.drop c) rfl ?_ ?_ ?_ ?_; (· first | exact o2 | exact o2.dr); (· first | exact rD.out.same b2 | exact (rD.out.same b2).dr); (· first | exact b2 | exact b2.drew); (· first | omega | (simp; done) | (simp; omega)); intro A3 c3 w3 o3 b3 g3; clear g3))
          all_goals
            have hlen := o3.len
            have o4 := o3.asI (n := c + 1) (B' := w.heap.size) (by omega) hgq
            have r4 := HR.out.kept (grown_of_below b3) (fun j e => by cases e)
            have g4 := grown_new HG.out (grown_of_below b3) (fun j e => by cases e)
            obtain ⟨g3', rfl, _, _⟩ := o3.form (by omega)
            have HO := Lib.hid (And.intro o4 (And.intro r4 g4))
            clear o4 o3 b3 hlen r4 g4
            go_wp2_with fail
            go_roundw
            case rel =>
              first
                | exact ⟨c + 1, _, c3, g3', _, by omega, by go_num, slE (by omega), HO.out.1, HO.out.2.1, by omega, HO.out.2.2⟩
                | ((repeat apply Exists.intro); exact ⟨⟨c + 1, _, c3, g3', _, by omega, by go_num, slE (by omega), HO.out.1, HO.out.2.1, by omega, HO.out.2.2⟩, rfl⟩)
            case measure => simp [intOf]; omega
        · have e6 : ¬ (c = q) := hcq
          have e5 : ¬ (q = c) := fun e => hcq e.symm
          have rD : Hid (Rd wq (some ⟨gx, q, none⟩) (i - q) (P.drop q)) := by have := rDD.out; rw [Nat.zero_add] at this; exact this
          clear rDD rDA
          go_wp2_with fail
          go_region_law (first | (refine step_app2 wq (c2 := c) rfl (.tmp 16) (.tmp 19) rfl [] rfl ?_ (P.take q) rfl ?_ ?_ ?_ ?_; (· first | exact (Own.lit wq hq0 [] hz0).dr | exact ((Own.lit wq hq0 [] hz0).al _).dr | exact lit2nd wq _); (· first | exact (rT.out.al _).dr | exact ((rT.out.al _).al _).dr); (· first | exact (below_alloc (Below.refl _ _) _).drew | exact (below_alloc (below_alloc (Below.refl _ _) _) _).drew); (· first | omega | (simp; done) | (simp; omega)); intro A1 c1 w1' o1 b1 g1; simp only [Nat.zero_add, List.nil_append] at o1; (first | have q1 := litAft wq w1' (i : Int) g1 | have q1 := litAhd wq w1' (i : Int) g1 | skip); clear g1) | (refine step_app2 wq (c2 := 1) rfl (.tmp 20) (.tmp 22) rfl (P.take q) rfl ?_ [(i : Int)] rfl ?_ ?_ ?_ ?_; (· first | exact o1 | exact o1.al _ | exact o1.dr | exact (o1.al _).dr); (· first | exact q1 | exact q1.dr | exact rd_one _ _ | exact (rd_one _ _).dr); (· first | exact b1 | exact b1.drew | exact below_alloc b1 _ | exact (below_alloc b1 _).drew); (· first | omega | (simp; done) | (simp; omega)); intro A2 c2 w2' o2 b2 g2'; clear g2') | (refine step_app2 wq (c2 := c - q) rfl (.tmp 23) (.tmp 26) rfl (P.take q ++ [(i : Int)]) rfl ?_ (P.drop q) rfl ?_ ?_ ?_ ?_; (· first | exact o2 | exact o2.dr); (· first | exact rD.out.same b2 | exact (rD.out.same b2).dr); (· first | exact b2 | exact b2.drew); (· first | omega | (simp; done) | (simp; omega)); intro A3 c3 w3 o3 b3 g3; clear g3))
          all_goals
            have hlen := o3.len
            have o4 := o3.asI (n := i + 1) (B' := w.heap.size) (by omega) hgq
            have r4 := HR.out.kept (grown_of_below b3) (fun j e => by cases e)
            have g4 := grown_new HG.out (grown_of_below b3) (fun j e => by cases e)
            obtain ⟨g3', rfl, _, _⟩ := o3.form (by omega)
            have HO := Lib.hid (And.intro o4 (And.intro r4 g4))
            clear o4 o3 b3 hlen r4 g4
            go_wp2_with fail
            go_roundw
            case rel =>
              first
                | exact ⟨i + 1, _, c3, g3', _, by omega, by go_num, slE (by omega), HO.out.1, HO.out.2.1, by omega, HO.out.2.2⟩
                | ((repeat apply Exists.intro); exact ⟨⟨i + 1, _, c3, g3', _, by omega, by go_num, slE (by omega), HO.out.1, HO.out.2.1, by omega, HO.out.2.2⟩, rfl⟩)
            case measure => simp [intOf]; omega
    · obtain rfl : i = 4 := by omega
      go_wp2_with fail
      refine (pick_any w0 g _ 24 _ hr (by omega) (by omega) (by omega)).mono ?_
      rintro e w3 ⟨v3, rfl, _, hv3, r3, g3⟩
      have hv3 := hv3 (by omega)
      have o3 := ho.far g3 (fun j e => by cases e; exact .inl hglt)
      have gg3 := grown_trans_row hg g3
      clear ho hr hg g3
      by_cases h30 : v3 = 0
      · subst h30
        go_wp2_with fail
        refine (pick_any w0 g _ 5 _ r3 (by omega) (by omega) (by omega)).mono ?_
        rintro e w4 ⟨v4, rfl, hv40, hv4, r4, g4⟩
        have o4 := o3.far g4 (fun j e => by cases e; exact .inl hglt)
        have gg4 := grown_trans_row gg3 g4
        obtain ⟨hd1, hd2⟩ := o4.blk
        have hcx := o4.cell 0 (by omega)
        have hfx := o4.free 0
        have o6 := o4.stored 0 v4
        have r6 := r4.kept o6.2 (fun j e => by cases e; omega)
        have gg6 := grown_new gg4 o6.2 (fun j e => by cases e; exact hd1)
        generalize P.getD 0 0 = yq at hcx
        clear o3 o4 g4 gg3 gg4 r3 r4
        go_wp2_with fail
        try go_simp
        try go_wp2_with fail
        go_ret
        exact ⟨_, c, _, _, rfl, o6.1.farI, r6, by omega, gg6⟩
      · have d1 : (v3 == 0) = false := by simpa using h30
        go_wp2_with fail
        go_ret
        exact ⟨_, c, _, _, rfl, o3.farI, r3, by omega, gg3⟩

/-- What the laws' draws leave: one list; two lists. -/
def Drawn1 (w : World) (e : Ending) (w' : World) : Prop :=
  ∃ (A : Option Addr) (n c : Nat) (xs : List Int), e = .returned (.slice A n c) ∧ Rd w' A n xs ∧ n ≤ 1048576 ∧ Below w.heap.size w w'
def Drawn2 (w : World) (e : Ending) (w' : World) : Prop :=
  ∃ (A : Option Addr) (n c : Nat) (xs : List Int) (A1 : Option Addr) (n1 c1 : Nat) (ys : List Int), e = .returned (.tuple #[.slice A n c, .slice A1 n1 c1]) ∧ Rd w' A n xs ∧ n ≤ 1048576 ∧ Rd w' A1 n1 ys ∧ n1 ≤ 1048576 ∧ Below w.heap.size w w'

theorem l92Edges_any (A : Option Addr) (n c : Nat) (bs : List Int) (w : World) (h : RdB w A n bs) (hb : Bytes bs) (hn : n ≤ 1048576) (hc : n ≤ c) :
    Calls Try.prog 92 #[.slice A n c] w (Drawn1 w) := by
  go_enter Try.func92, Try.ntmps92
  go_wp2_with fail
  refine (l6Open_any A n c bs _ h hb hn hc).mono ?_
  rintro e w1 ⟨g, rfl, _, _, r1, _⟩
  go_wp2_with fail
  refine (l92Solid_any w g 0 _ r1 (by omega)).mono ?_
  rintro e w2 ⟨A2, n2, c2, p', xs, rfl, o2, hn2, r2, hp', g2⟩
  go_wp2_with fail
  go_ret
  exact ⟨A2, n2, c2, xs, rfl, o2.rd, by omega, r2.bel_⟩

theorem drawSolidIn_any (A : Option Addr) (n c : Nat) (bs : List Int) (w : World) (h : RdB w A n bs) (hb : Bytes bs) (hn : n ≤ 1048576) (hc : n ≤ c) :
    Calls Try.prog 35 #[.slice A n c] w (Drawn1 w) := by
  go_enter Try.func35, Try.ntmps35
  go_wp2_with fail
  refine (l92Edges_any A n c bs _ h hb hn hc).mono ?_
  rintro e w1 ⟨A2, n2, c2, xs, rfl, o2, hn2, b2⟩
  go_wp2_with fail
  go_ret
  exact ⟨A2, n2, c2, xs, rfl, o2, hn2, b2⟩

theorem drawSolidNumber_any (A : Option Addr) (n c : Nat) (bs : List Int) (w : World) (h : RdB w A n bs) (hb : Bytes bs) (hn : n ≤ 1048576) (hc : n ≤ c) :
    Calls Try.prog 39 #[.slice A n c] w (Drawn1 w) := by
  go_enter Try.func39, Try.ntmps39
  go_wp2_with fail
  refine (l92Edges_any A n c bs _ h hb hn hc).mono ?_
  rintro e w1 ⟨A2, n2, c2, xs, rfl, o2, hn2, b2⟩
  go_wp2_with fail
  go_ret
  exact ⟨A2, n2, c2, xs, rfl, o2, hn2, b2⟩

theorem drawSolidFaces_any (A : Option Addr) (n c : Nat) (bs : List Int) (w : World) (h : RdB w A n bs) (hb : Bytes bs) (hn : n ≤ 1048576) (hc : n ≤ c) :
    Calls Try.prog 45 #[.slice A n c] w (Drawn1 w) := by
  go_enter Try.func45, Try.ntmps45
  go_wp2_with fail
  refine (l92Edges_any A n c bs _ h hb hn hc).mono ?_
  rintro e w1 ⟨A2, n2, c2, xs, rfl, o2, hn2, b2⟩
  go_wp2_with fail
  go_ret
  exact ⟨A2, n2, c2, xs, rfl, o2, hn2, b2⟩

theorem drawSolidStands_any (A : Option Addr) (n c : Nat) (bs : List Int) (w : World) (h : RdB w A n bs) (hb : Bytes bs) (hn : n ≤ 1048576) (hc : n ≤ c) :
    Calls Try.prog 50 #[.slice A n c] w (Drawn1 w) := by
  go_enter Try.func50, Try.ntmps50
  go_wp2_with fail
  refine (l92Edges_any A n c bs _ h hb hn hc).mono ?_
  rintro e w1 ⟨A2, n2, c2, xs, rfl, o2, hn2, b2⟩
  go_wp2_with fail
  go_ret
  exact ⟨A2, n2, c2, xs, rfl, o2, hn2, b2⟩

theorem drawSolidFirst_any (A : Option Addr) (n c : Nat) (bs : List Int) (w : World) (h : RdB w A n bs) (hb : Bytes bs) (hn : n ≤ 1048576) (hc : n ≤ c) :
    Calls Try.prog 57 #[.slice A n c] w (Drawn1 w) := by
  go_enter Try.func57, Try.ntmps57
  go_wp2_with fail
  refine (l92Edges_any A n c bs _ h hb hn hc).mono ?_
  rintro e w1 ⟨A2, n2, c2, xs, rfl, o2, hn2, b2⟩
  go_wp2_with fail
  go_ret
  exact ⟨A2, n2, c2, xs, rfl, o2, hn2, b2⟩

theorem drawSolidNamed_any (A : Option Addr) (n c : Nat) (bs : List Int) (w : World) (h : RdB w A n bs) (hb : Bytes bs) (hn : n ≤ 1048576) (hc : n ≤ c) :
    Calls Try.prog 53 #[.slice A n c] w (Drawn2 w) := by
  go_enter Try.func53, Try.ntmps53
  go_wp2_with fail
  refine (l6Open_any A n c bs _ h hb hn hc).mono ?_
  rintro e w1 ⟨g, rfl, _, _, r1, _⟩
  have hg1 := r1.lt
  go_wp2_with fail
  refine (l92Solid_any w g 0 _ r1 (by omega)).mono ?_
  rintro e w2 ⟨A2, n2, c2, p', xs, rfl, o2, hn2, r2, hp', g2⟩
  go_wp2_with fail
  refine (l92Corners_any w g p' _ r2 (by omega)).mono ?_
  rintro e w3 ⟨A3, c3, p3, ys, rfl, o3, r3, hp3, g3⟩
  have o4 := o2.kept g3 (fun k e => by cases e; exact .inl hg1)
  go_wp2_with fail
  refine bodyPost_ret (results_tmp2 rfl _ _ _) rfl ?_
  exact ⟨A2, n2, c2, xs, A3, 4, c3, ys, rfl, o4.rd, by omega, o3.rd, by omega, r3.bel_⟩

set_option maxHeartbeats 1000000 in
theorem drawSolidSame_any (A : Option Addr) (n c : Nat) (bs : List Int) (w : World) (h : RdB w A n bs) (hb : Bytes bs) (hn : n ≤ 1048576) (hc : n ≤ c) :
    Calls Try.prog 60 #[.slice A n c] w (Drawn2 w) := by
  go_enter Try.func60, Try.ntmps60
  go_wp2_with fail
  refine (l6Open_any A n c bs _ h hb hn hc).mono ?_
  rintro e w1 ⟨g, rfl, _, _, r1, _⟩
  have hg1 := r1.lt
  go_wp2_with fail
  refine (l92Solid_any w g 0 _ r1 (by omega)).mono ?_
  rintro e w2 ⟨A2, n2, c2, p', xs, rfl, o2, hn2, r2, hp', g2⟩
  have hs2 := g2.size
  go_wp2_with fail
  refine (l92Corners_any w g p' _ r2 (by omega)).mono ?_
  rintro e w3 ⟨A3, c3, p3, ys, rfl, o3, r3, hp3, g3⟩
  have o4 := o2.kept g3 (fun k e => by cases e; exact .inl hg1)
  have hs3 := g3.size
  clear o2 g2 g3 r1 r2
  go_wp2_with fail
  refine (specSolidNamed_own _ _ _ xs _ _ _ ys _ o4.rd (by omega) o3.rd (by omega)).mono ?_
  rintro e w5 ⟨A5, n5, c5, rfl, o5, hn5, b5⟩
  have o6 := o4.same b5
  have r5 := r3.kept (grown_of_below b5) (fun k e => by cases e)
  have g5 := Below.refl w5.heap.size w5
  have hs5 := b5.size
  have F5 := Lib.hid (And.intro o6 (And.intro o5.farI r5))
  clear o3 o4 o6 o5 r3 b5 g5
  have third : ∀ w6 p6, Rdr w w6 g p6 → p6 ≤ 100 → FarI w6 w1.heap.size A2 n2 xs → Calls Try.prog 111 #[.pointer (some ⟨g, 0, none⟩)] w6 fun e w7 => ∃ (A7 : Option Addr) (n7 c7 : Nat) (zs : List Int), e = .returned (.slice A7 n7 c7) ∧ Rd w7 A7 n7 zs ∧ n7 ≤ 6 ∧ Rd w7 A2 n2 xs ∧ Below w.heap.size w w7 := fun w6 p6 r6 h6 o6 => (l92Solid_any w g p6 _ r6 (by omega)).mono fun e w7 ⟨A7, n7, c7, p7, zs, e7, o7, hn7, r7, _, g7⟩ => ⟨A7, n7, c7, zs, e7, o7.rd, hn7, (o6.kept g7 (fun k e => by cases e; exact .inl hg1)).rd, r7.bel_⟩
  have THIRD := Lib.hid third
  clear third
  cases hnb : namB xs ys with
  | false =>
    clear hnb
    go_wp2_with fail
    refine (THIRD.out _ _ F5.out.2.2 (by omega) F5.out.1).mono ?_
    rintro e w7 ⟨A7, n7, c7, zs, rfl, o7, hn7, o8, b7⟩
    go_wp2_with fail
    refine bodyPost_ret (results_tmp2 rfl _ _ _) rfl ?_
    exact ⟨A2, n2, c2, xs, A7, n7, c7, zs, rfl, o8, by omega, o7, by omega, b7⟩
  | true =>
    clear hnb
    go_wp2_with fail
    refine (pick_any w g _ 3 _ F5.out.2.2 (by omega) (by omega) (by omega)).mono ?_
    rintro e w6 ⟨v6, rfl, _, hv6, r6, g6⟩
    have hg3 : g < w3.heap.size := by omega
    have k1 := F5.out.1.kept g6 (fun k e => by cases e; exact .inl hg1)
    have k2 := F5.out.2.1.kept g6 (fun k e => by cases e; exact .inl hg3)
    have K := Lib.hid (And.intro k1 (And.intro k2 r6))
    clear k1 k2 g6 r6
    by_cases h6 : v6 > 0
    · have d6 : decide (v6 > 0) = true := by simpa using h6
      have hbw := K.out.2.2.bel_
      go_wp2_with fail
      refine bodyPost_ret (results_tmp2 rfl _ _ _) rfl ?_
      exact ⟨A2, n2, c2, xs, A5, n5, c5, _, rfl, K.out.1.rd, by omega, K.out.2.1.rd, hn5, hbw⟩
    · have d6 : decide (v6 > 0) = false := by simpa using h6
      go_wp2_with fail
      refine (THIRD.out _ _ K.out.2.2 (by omega) K.out.1).mono ?_
      rintro e w7 ⟨A7, n7, c7, zs, rfl, o7, hn7, o8, b7⟩
      go_wp2_with fail
      refine bodyPost_ret (results_tmp2 rfl _ _ _) rfl ?_
      exact ⟨A2, n2, c2, xs, A7, n7, c7, zs, rfl, o8, by omega, o7, by omega, b7⟩

set_option maxHeartbeats 1000000 in
theorem drawSolidLeast_any (A : Option Addr) (n c : Nat) (bs : List Int) (w : World) (h : RdB w A n bs) (hb : Bytes bs) (hn : n ≤ 1048576) (hc : n ≤ c) :
    Calls Try.prog 62 #[.slice A n c] w (DrawnL w) := by
  go_enter Try.func62, Try.ntmps62
  go_wp2_with fail
  refine (l6Open_any A n c bs _ h hb hn hc).mono ?_
  rintro e w1 ⟨g, rfl, _, _, r1, _⟩
  have hg1 := r1.lt
  go_wp2_with fail
  refine (l92Solid_any w g 0 _ r1 (by omega)).mono ?_
  rintro e w2 ⟨A2, n2, c2, p', xs, rfl, o2, hn2, r2, hp', g2⟩
  go_wp2_with fail
  refine (pick_any w g _ 24 _ r2 (by omega) (by omega) (by omega)).mono ?_
  rintro e w3 ⟨v3, rfl, _, hv3, r3, g3⟩
  have hv3 := hv3 (by omega)
  have o3 := o2.kept g3 (fun k e => by cases e; exact .inl hg1)
  obtain ⟨d, hd, hd2, hd1⟩ : ∃ d : Int, v3.tdiv 23 = d ∧ v3 / 23 = d ∧ (0 ≤ d ∧ d ≤ 1) := ⟨v3 / 23, by rw [Int.tdiv_eq_ediv_of_nonneg (by omega)], rfl, by omega⟩
  have u1 : IntKind.i64.wrap d = d := wrap_is rfl (by omega) (by omega)
  have u2 : IntKind.i64.wrap (6 + d) = 6 + d := wrap_is rfl (by omega) (by omega)
  clear o2 r2 g2 g3
  go_wp2_with fail
  refine (pick_any w g _ (6 + d) _ r3 (by omega) (by omega) (by omega)).mono ?_
  rintro e w4 ⟨v4, rfl, _, hv4, r4, g4⟩
  have hv4 := hv4 (by omega)
  have o4 := o3.kept g4 (fun k e => by cases e; exact .inl hg1)
  clear o3 r3 g4
  go_wp2_with fail
  refine (pick_any w g _ 24 _ r4 (by omega) (by omega) (by omega)).mono ?_
  rintro e w5 ⟨v5, rfl, _, hv5, r5, g5⟩
  have hv5 := hv5 (by omega)
  have o5 := o4.kept g5 (fun k e => by cases e; exact .inl hg1)
  obtain ⟨d', hd', hd2', hd1'⟩ : ∃ d : Int, v5.tdiv 23 = d ∧ v5 / 23 = d ∧ (0 ≤ d ∧ d ≤ 1) := ⟨v5 / 23, by rw [Int.tdiv_eq_ediv_of_nonneg (by omega)], rfl, by omega⟩
  have u3 : IntKind.i64.wrap d' = d' := wrap_is rfl (by omega) (by omega)
  have u4 : IntKind.i64.wrap (v4 - d') = v4 - d' := wrap_is rfl (by omega) (by omega)
  clear o4 r4 g5
  go_wp2_with fail
  refine bodyPost_ret (results_tmp2 rfl _ _ _) rfl ?_
  exact ⟨A2, n2, c2, xs, _, rfl, o5.rd, by omega, r5.bel_⟩

set_option maxHeartbeats 1000000 in
theorem drawSolidCount_any (A : Option Addr) (n c : Nat) (bs : List Int) (w : World) (h : RdB w A n bs) (hb : Bytes bs) (hn : n ≤ 1048576) (hc : n ≤ c) :
    Calls Try.prog 42 #[.slice A n c] w (DrawnN w) := by
  go_enter Try.func42, Try.ntmps42
  go_wp2_with fail
  refine (l6Open_any A n c bs _ h hb hn hc).mono ?_
  rintro e w1 ⟨g, rfl, _, _, r1, _⟩
  go_wp2_with fail
  refine (pick_any w g _ 3 _ r1 (by omega) (by omega) (by omega)).mono ?_
  rintro e w3 ⟨v3, rfl, _, hv3, r3, g3⟩
  have hv3 := hv3 (by omega)
  have u0 : IntKind.i64.wrap (1 + v3) = 1 + v3 := wrap_is rfl (by omega) (by omega)
  go_wp2_with fail
  refine (pick_any w g _ 12 _ r3 (by omega) (by omega) (by omega)).mono ?_
  rintro e w4 ⟨v4, rfl, _, hv4, r4, g4⟩
  have hv4 := hv4 (by omega)
  obtain ⟨d, hd, hd2, hd1⟩ : ∃ d : Int, v4.tdiv 11 = d ∧ v4 / 11 = d ∧ (0 ≤ d ∧ d ≤ 1) := ⟨v4 / 11, by rw [Int.tdiv_eq_ediv_of_nonneg (by omega)], rfl, by omega⟩
  have u1 : IntKind.i64.wrap d = d := wrap_is rfl (by omega) (by omega)
  have u2 : IntKind.i64.wrap (1 + v3 + d) = 1 + v3 + d := wrap_is rfl (by omega) (by omega)
  go_wp2_with fail
  refine (pick_any w g _ 12 _ r4 (by omega) (by omega) (by omega)).mono ?_
  rintro e w5 ⟨v5, rfl, _, hv5, r5, g5⟩
  have hv5 := hv5 (by omega)
  obtain ⟨d', hd', hd2', hd1'⟩ : ∃ d : Int, v5.tdiv 11 = d ∧ v5 / 11 = d ∧ (0 ≤ d ∧ d ≤ 1) := ⟨v5 / 11, by rw [Int.tdiv_eq_ediv_of_nonneg (by omega)], rfl, by omega⟩
  have u3 : IntKind.i64.wrap d' = d' := wrap_is rfl (by omega) (by omega)
  have u4 : IntKind.i64.wrap (1 + v3 + d - d') = 1 + v3 + d - d' := wrap_is rfl (by omega) (by omega)
  go_wp2_with fail
  go_ret
  exact ⟨_, rfl, by omega, by omega, r5.bel_⟩
end Go.Proofs.Ytdnegamminhbfaa
