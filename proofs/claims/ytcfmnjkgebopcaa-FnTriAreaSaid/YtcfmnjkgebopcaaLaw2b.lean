/- The walks of the laws FnTriSame, FnTriKind, FnTriArea. -/
import Derived.Test.YtcfmnjkgebopcaaLaw2a
namespace Go.Proofs.Ytcfmnjkgebopcaa
open Go.RowKit Go.Sort

theorem Own.other {w w' : World} {B n c g : Nat} {xs : List Int} {row : Option Nat} (h : Own w B (some ⟨g, 0, none⟩) n c xs) (hg : w.grownBy w' row) (hne : row ≠ some g) : Own w' B (some ⟨g, 0, none⟩) n c xs :=
  World.ownsRow.kept h hg (.inr fun e => hne e.symm)
/-- What the draw of two triangles leaves. -/
def DrawnTT (w : World) (e : Ending) (w' : World) : Prop :=
  ∃ (gb : Nat) (A2 : Option Addr) (c2 : Nat) (xs ys : List Int), e = .returned (.tuple #[.slice (some ⟨gb, 0, none⟩) 3 3, .slice A2 3 c2]) ∧ Own w' w.heap.size (some ⟨gb, 0, none⟩) 3 3 xs ∧ Own w' w.heap.size A2 3 c2 ys ∧ Below w.heap.size w w'
set_option maxRecDepth 100000 in
set_option maxHeartbeats 4000000 in
theorem drawTriSame_any (A : Option Addr) (n c : Nat) (bs : List Int) (w : World) (h : RdB w A n bs) (hb : Bytes bs) (hn : n ≤ 1048576) (hc : n ≤ c) :
    Calls Try.prog 83 #[.slice A n c] w (DrawnTT w) := by
  go_enter Try.func83, Try.ntmps83
  go_wp2_with fail
  refine (l6Open_any A n c bs _ h hb hn hc).mono ?_
  rintro e w1 ⟨g, rfl, hg0, hg1, r1, _⟩
  have hs := r1.bel_.size
  go_wp2_with fail
  refine (triangle_any w g 0 _ r1 (by omega)).mono ?_
  rintro e w2 ⟨gb, p', xs, rfl, o2, hx, r2, hp', g2⟩
  have o2' := o2.lower hs
  go_wp2_with fail
  refine (pick_any w g _ 3 _ r2 (by omega) (by omega) (by omega)).mono ?_
  rintro e w3 ⟨v, rfl, _, hv, r3, g3⟩
  have hv := hv (by omega)
  have o3 := o2.far g3 (fun j e => by cases e; exact .inl hg1)
  have hgb := o3.blk
  have k0 := o3.cell 0 (by omega)
  have k1 := o3.cell 1 (by omega)
  have k2 := o3.cell 2 (by omega)
  have x0 := hx.2 _ (getD_mem (xs := xs) (j := 0) (by rw [hx.1]; omega))
  have x1 := hx.2 _ (getD_mem (xs := xs) (j := 1) (by rw [hx.1]; omega))
  have x2 := hx.2 _ (getD_mem (xs := xs) (j := 2) (by rw [hx.1]; omega))
  obtain ⟨k, hk⟩ : ∃ k, k = 1 + v := ⟨_, rfl⟩
  have hk1 : 1 ≤ k ∧ k ≤ 3 := by omega
  obtain ⟨a, ea⟩ : ∃ a, a = xs.getD 0 0 := ⟨_, rfl⟩
  obtain ⟨b, eb⟩ : ∃ b, b = xs.getD 1 0 := ⟨_, rfl⟩
  obtain ⟨d, ed⟩ : ∃ d, d = xs.getD 2 0 := ⟨_, rfl⟩
  rw [← ea] at k0 x0
  rw [← eb] at k1 x1
  rw [← ed] at k2 x2
  have m0 := mul_bd (a := 1 + v) (b := a) (A := 3) (B := 62) (by omega) (by omega) (by omega) x0.2
  have m1 := mul_bd (a := 1 + v) (b := b) (A := 3) (B := 62) (by omega) (by omega) (by omega) x1.2
  have m2 := mul_bd (a := 1 + v) (b := d) (A := 3) (B := 62) (by omega) (by omega) (by omega) x2.2
  have v0 : IntKind.i64.wrap ((1 + v) * a) = (1 + v) * a := wrap_is rfl (by omega) (by omega)
  have v1 : IntKind.i64.wrap ((1 + v) * b) = (1 + v) * b := wrap_is rfl (by omega) (by omega)
  have v2 : IntKind.i64.wrap ((1 + v) * d) = (1 + v) * d := wrap_is rfl (by omega) (by omega)
  have hw3 : w1.heap.size ≤ w3.heap.size := Nat.le_trans g2.size g3.size
  have gA := World.grownBy_alloc w3 (.cells #[.int .i64 ((1 + v) * a), .int .i64 ((1 + v) * b), .int .i64 ((1 + v) * d)] 3) none
  obtain ⟨W, hW⟩ : ∃ W, W = (w3.alloc (.cells #[.int .i64 ((1 + v) * a), .int .i64 ((1 + v) * b), .int .i64 ((1 + v) * d)] 3)).drew := ⟨_, rfl⟩
  have HL : Hid (Own W w1.heap.size (some ⟨w3.heap.size, 0, none⟩) 3 3 [(1 + v) * a, (1 + v) * b, (1 + v) * d]) := Lib.hid (by rw [hW]; exact (Own.lit w3 (B := w1.heap.size) hw3 [(1 + v) * a, (1 + v) * b, (1 + v) * d] (by simp)).dr)
  have HX : Hid (Own W w1.heap.size (some ⟨gb, 0, none⟩) 3 3 xs) := Lib.hid (by rw [hW]; exact (o3.al _).dr)
  have HR : Hid (Rdr w W g _) := Lib.hid (by rw [hW]; exact (r3.kept gA (fun k e => by cases e)).drN 1)
  have HW := Lib.hid hW
  clear ea eb ed hk hk1 o3 hW
  go_wp2_with fail
  go_region
  rw [← HW.out]
  have o5 := HL.out
  have p5 := HX.out
  have q5 := HR.out
  clear HL HX HR k0 k1 k2 gA
  go_wp2_with fail
  refine (pick_any w g _ 3 _ q5 (by omega) (by omega) (by omega)).mono ?_
  rintro e w6 ⟨u, rfl, _, hu, r6, g6⟩
  have hu := hu (by omega)
  have o6 := o5.far g6 (fun j e => by cases e; exact .inl hg1)
  have p6 := p5.far g6 (fun j e => by cases e; exact .inl hg1)
  by_cases hu0 : u = 0
  · subst hu0
    go_wp2_with fail
    refine (pick_any w g _ 3 _ r6 (by omega) (by omega) (by omega)).mono ?_
    rintro e w7 ⟨t, rfl, _, ht, r7, g7⟩
    have ht := ht (by omega)
    have o7 := o6.far g7 (fun j e => by cases e; exact .inl hg1)
    have p7 := p6.far g7 (fun j e => by cases e; exact .inl hg1)
    obtain ⟨q, rfl⟩ : ∃ q : Nat, t = q := ⟨t.toNat, by omega⟩
    go_wp2_with fail
    refine (l91Length_any w g _ _ r7 (by omega)).mono ?_
    rintro e w8 ⟨s, rfl, hs1, hs2, r8, g8⟩
    have o8 := o7.far g8 (fun j e => by cases e; exact .inl hg1)
    have p8 := p7.far g8 (fun j e => by cases e; exact .inl hg1)
    have ox := o8.cell q (by omega)
    have fx := o8.free q
    have st := o8.stored q s
    have p9 := p8.other st.2 (fun e => by injection e with e; omega)
    have r9 := r8.kept st.2 (fun j e => by cases e; omega)
    have HS := Lib.hid st.1
    have HP := Lib.hid p9
    have HR := Lib.hid r9
    clear st p9 r9 o8 p8
    go_wp2_with fail
    refine (l1Sort_any _ 3 3 _ _ HS.out.rd (by omega)).mono ?_
    rintro e w10 ⟨A10, c10, rfl, o10, b10⟩
    go_wp2_with fail
    go_ret2
    have hsz := HR.out.bel_.size
    exact ⟨gb, A10, c10, xs, _, rfl, (HP.out.same b10).lower hs, o10.lower hsz, HR.out.bel_.trans (b10.mono hsz)⟩
  · go_wp2_with fail
    refine (l1Sort_any _ 3 3 _ _ o6.rd (by omega)).mono ?_
    rintro e w10 ⟨A10, c10, rfl, o10, b10⟩
    go_wp2_with fail
    go_ret2
    have hsz := r6.bel_.size
    exact ⟨gb, A10, c10, xs, _, rfl, (p6.same b10).lower hs, o10.lower hsz, r6.bel_.trans (b10.mono hsz)⟩

set_option maxRecDepth 100000 in
set_option maxHeartbeats 4000000 in
theorem fnTriSame_walk (A0 : Option Addr) (n0 c0 : Nat) (z0 : List Int) (w : World) (h0 : RdB w A0 n0 z0) (k0 : WfL .u8 z0) (q0 : n0 ≤ c0) :
    Calls Try.prog 18 #[.slice A0 n0 c0] w fun e w' => e = .returned (.bool true) ∧ Below w.heap.size w w' := by
  by_cases big : n0 ≤ 1048576
  rotate_left
  · go_enter Try.func18, Try.ntmps18
    go_wp2_with fail
    go_ret
    exact ⟨rfl, Below.refl _ _⟩
  go_enter Try.func18, Try.ntmps18
  go_wp2_with fail
  refine (drawTriSame_any A0 n0 c0 z0 _ h0 (bytes_of k0) big q0).mono ?_
  rintro e w1 ⟨gb, A2, c2, xs, ys, rfl, o1, p1, b1⟩
  go_wp2_with fail
  refine (implTriSame_any _ 3 3 xs _ 3 c2 ys _ o1.rd (by omega) p1.rd (by omega)).mono ?_
  rintro e w2 ⟨rfl, b2⟩
  have b3 := below_then b1 b2
  replace o1 := o1.same b2
  replace p1 := p1.same b2
  go_wp2_with fail
  refine (specTriSame_any _ 3 3 xs _ 3 c2 ys _ o1.rd (by omega) p1.rd (by omega)).mono ?_
  rintro e w3 ⟨rfl, b4⟩
  have b5 := below_then b3 b4
  replace o1 := o1.same b4
  replace p1 := p1.same b4
  by_cases hs : samB xs ys = true
  · have HT := Lib.hid (sam_yes hs).1
    have HT2 := Lib.hid (sam_yes hs).2.1
    have HK := Lib.hid (sam_kind hs)
    have HS := Lib.hid (sam_symm hs)
    rw [hs]
    clear hs
    go_wp2_with fail
    refine (implTriKind_any _ 3 3 xs _ o1.rd (by omega)).mono ?_
    rw [HT.out, HK.out]
    rintro e w4 ⟨rfl, b6⟩
    have b7 := below_then b5 b6
    replace o1 := o1.same b6
    replace p1 := p1.same b6
    go_wp2_with fail
    refine (implTriKind_any _ 3 c2 ys _ p1.rd (by omega)).mono ?_
    rw [HT2.out]
    rintro e w5 ⟨rfl, b8⟩
    have b9 := below_then b7 b8
    replace o1 := o1.same b8
    replace p1 := p1.same b8
    obtain ⟨K, hK⟩ : ∃ K, K = kndM ys := ⟨_, rfl⟩
    rw [← hK]
    clear hK
    go_wp2_with fail
    refine (implTriSame_any _ 3 c2 ys _ 3 3 xs _ p1.rd (by omega) o1.rd (by omega)).mono ?_
    rw [HS.out]
    rintro e w6 ⟨rfl, b10⟩
    go_wp2_with fail
    go_ret
    exact ⟨rfl, below_then b9 b10⟩
  · rw [Bool.not_eq_true] at hs
    rw [hs]
    clear hs
    go_wp2_with fail
    go_ret
    exact ⟨rfl, b5⟩

set_option maxRecDepth 100000 in
set_option maxHeartbeats 4000000 in
theorem fnTriArea_walk (A0 : Option Addr) (n0 c0 : Nat) (z0 : List Int) (w : World) (h0 : RdB w A0 n0 z0) (k0 : WfL .u8 z0) (q0 : n0 ≤ c0) :
    Calls Try.prog 16 #[.slice A0 n0 c0] w fun e w' => e = .returned (.bool true) ∧ Below w.heap.size w w' := by
  by_cases big : n0 ≤ 1048576
  rotate_left
  · go_enter Try.func16, Try.ntmps16
    go_wp2_with fail
    go_ret
    exact ⟨rfl, Below.refl _ _⟩
  go_enter Try.func16, Try.ntmps16
  go_wp2_with fail
  refine (drawTriArea_any A0 n0 c0 z0 _ h0 (bytes_of k0) big q0).mono ?_
  rintro e w1 ⟨gb, xs, rfl, o1, hx, b1⟩
  go_wp2_with fail
  refine (implTriArea_any _ 3 3 xs _ o1.rd (by omega)).mono ?_
  rintro e w2 ⟨rfl, b2⟩
  have b3 := below_then b1 b2
  replace o1 := o1.same b2
  go_wp2_with fail
  refine (specTriArea_any _ 3 3 xs _ o1.rd (by omega)).mono ?_
  rintro e w3 ⟨rfl, b4⟩
  have b5 := below_then b3 b4
  replace o1 := o1.same b4
  by_cases hs : triLB xs = true
  · have hp := (triLB_yes hs).2.2
    have hpos := area_pos hp
    have hsq := area_sq (xs.getD 0 0) (xs.getD 1 0) (xs.getD 2 0)
    rw [← arM_yes hs] at hpos hsq
    have k0' := o1.cell 0 (by omega)
    have k1' := o1.cell 1 (by omega)
    have k2' := o1.cell 2 (by omega)
    obtain ⟨h1, h2, h3, h4, h5⟩ := hp
    rw [hs]
    obtain ⟨R, hR⟩ : ∃ R, R = arM xs := ⟨_, rfl⟩
    rw [← hR] at hpos hsq ⊢
    obtain ⟨x, ex⟩ : ∃ x, x = xs.getD 0 0 := ⟨_, rfl⟩
    obtain ⟨y, ey⟩ : ∃ y, y = xs.getD 1 0 := ⟨_, rfl⟩
    obtain ⟨z, ez⟩ : ∃ z, z = xs.getD 2 0 := ⟨_, rfl⟩
    rw [← ex] at k0' h1 h2 h5
    rw [← ey] at k1' h2 h3 h5
    rw [← ez] at k2' h3 h4 h5
    rw [← ex, ← ey, ← ez] at hsq
    have HSQ := Lib.hid hsq
    clear hs hR ex ey ez o1 hsq
    have s1 := sq_bd h1 (by omega)
    have s2 := sq_bd (a := y) (by omega) (by omega)
    have s3 := sq_bd (a := z) (by omega) h4
    have m1 := mul_bd (a := 4 * x) (b := x) (A := 240) (B := 60) (by omega) (by omega) (by omega) (by omega)
    have m2 := mul_bd (a := 4 * x * x) (b := y) (A := 14400) (B := 60) m1.1 m1.2 (by omega) (by omega)
    have m3 := mul_bd (a := 4 * x * x * y) (b := y) (A := 864000) (B := 60) m2.1 m2.2 (by omega) (by omega)
    go_wp2_with fail
    go_quiet (fail)
    have b6 := below_drewN b5 nq
    have j0 : (w3.drewN nq).cell? ⟨gb, 0, none⟩ = some (.int .i64 x) := k0'
    have j1 : (w3.drewN nq).cell? ⟨gb, 1, none⟩ = some (.int .i64 y) := k1'
    generalize w3.drewN nq = W at *
    have he := HSQ.out.symm
    clear HSQ
    generalize x * x + y * y - z * z = D at *
    have d2 : 0 ≤ D * D ∧ D * D ≤ 51840000 := by
      constructor
      · rcases (show 0 ≤ D ∨ D ≤ 0 by omega) with hd | hd
        · exact Int.mul_nonneg hd hd
        · exact Int.mul_nonneg_of_nonpos_of_nonpos hd hd
      · omega
    go_wp2_with fail
    go_quiet (fail)
    go_wp2_with fail
    go_ret
    exact ⟨rfl, below_drewN b6 _⟩
  · rw [Bool.not_eq_true] at hs
    rw [arM_no hs, hs]
    clear hs
    go_wp2_with fail
    go_ret
    exact ⟨rfl, b5⟩
end Go.Proofs.Ytcfmnjkgebopcaa
