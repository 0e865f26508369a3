/- For the laws FnBundle and FnSort: lists that read alike, a list in order sorted, the draw of FnBundle. -/
import Derived.Test.YtgnlefdecjpmeaaLaw1b
import Derived.Test.YtgnlefdecjpmeaaPut
namespace Go.Proofs.Ytgnlefdecjpmeaa
open Go.RowKit

theorem isort_asc {xs : List Int} (h : Asc xs) : isort xs = xs := by
  have key : ∀ k, k ≤ xs.length → isortTo xs k = xs.take k := by
    intro k
    induction k with
    | zero => intro _; rfl
    | succ k ih =>
      intro hk
      have e : xs.take (k + 1) = xs.take k ++ [xs.getD k 0] := by
        rw [List.take_succ_eq_append_getElem (by omega)]; simp [List.getD_eq_getElem?_getD, show k < xs.length by omega]
      have hl : (xs.take k).length = k := by rw [List.length_take]; omega
      have hp : pos (xs.take k) (xs.getD k 0) = k := by
        unfold pos
        rw [hl]
        cases k with
        | zero => rfl
        | succ m =>
          refine posTo_stop ?_
          have h1 := h m (by omega)
          have e2 : (xs.take (m + 1)).getD m 0 = xs.getD m 0 := by
            rw [List.getD_eq_getElem?_getD, List.getD_eq_getElem?_getD, List.getElem?_take_of_lt (by omega)]
          rw [e2]
          exact h1
      rw [isortTo, ih (by omega), e, ins, hp, List.take_of_length_le (by omega), List.drop_eq_nil_of_le (by omega)]
  have := key _ (Nat.le_refl _)
  rw [List.take_length] at this
  exact this

set_option maxHeartbeats 400000 in
theorem sameInts_any (A A2 : Option Addr) (n n2 c c2 : Nat) (xs : List Int) (w : World) (h : Rd w A n xs) (h2 : Rd w A2 n2 xs) (hn : n ≤ 1048576) :
    Calls Try.prog 30 #[.slice A n c, .slice A2 n2 c2] w fun e w' => e = .returned (.bool true) ∧ Below w.heap.size w w' := by
  obtain rfl : n2 = n := h2.1.symm.trans h.1
  go_enter Try.func30, Try.ntmps30
  go_wp2
  go_loopw [5] (fun i wr => ∃ k : Nat, k ≤ n2 ∧ i = .int .i64 k ∧ Below w.heap.size w wr) (fun i _ => n2 - (intOf i).toNat)
  case atStart => exact ⟨0, Nat.zero_le _, rfl, Below.refl _ _⟩
  case round =>
    obtain ⟨k, hk, rfl, hb⟩ := hrel
    by_cases hlt : k < n2
    · obtain ⟨b, off, rfl, hbl, hc⟩ := h.2 (by omega)
      obtain ⟨b2, off2, rfl, hbl2, hc2⟩ := h2.2 (by omega)
      have hcx : wr.cell? ⟨b, off + k, none⟩ = some (.int .i64 (xs.getD k 0)) := (hb.cell (p := ⟨b, off + k, none⟩) hbl).trans (hc k hlt)
      have hcy : wr.cell? ⟨b2, off2 + k, none⟩ = some (.int .i64 (xs.getD k 0)) := (hb.cell (p := ⟨b2, off2 + k, none⟩) hbl2).trans (hc2 k hlt)
      obtain ⟨x, ex⟩ : ∃ x, x = xs.getD k 0 := ⟨_, rfl⟩
      rw [← ex] at hcx hcy
      clear ex hc hc2 h h2
      go_wp2
      go_quiet (fail)
      go_wp2
      go_roundw
      case rel => exact ⟨k + 1, by omega, by go_num, below_drewN hb _⟩
      case measure => simp [intOf]; omega
    · obtain rfl : k = n2 := by omega
      go_wp2
      go_ret
      exact ⟨rfl, hb⟩

theorem drawIn_any (A : Option Addr) (n c : Nat) (bs : List Int) (w : World) (h : RdB w A n bs) (hb : Bytes bs) (hn : n ≤ 1048576) (hc : n ≤ c) :
    Calls Try.prog 26 #[.slice A n c] w (Drawn1 w 11) := by
  go_enter Try.func26, Try.ntmps26
  go_wp2_with fail
  refine (l6Open_any A n c bs _ h hb hn hc).mono ?_
  rintro e w1 ⟨g, rfl, _, _, r1, _⟩
  have hs := r1.bel_.size
  go_wp2_with fail
  refine (pick_any w g _ 11 _ r1 (by omega) (by omega) (by omega)).mono ?_
  rintro e w2 ⟨v, rfl, hv0, hv, r2, g2⟩
  have hv := hv (by omega)
  obtain ⟨m, rfl⟩ : ∃ m : Nat, v = m := ⟨v.toNat, by omega⟩
  have hs2 := g2.size
  go_wp2_with fail
  refine (sticks_any w g _ m _ r2 (by omega) (by omega)).mono ?_
  rintro e w3 ⟨A2, n2, c2, p', xs, rfl, o2, hn2, hx, r3, hp', g3⟩
  go_wp2_with fail
  go_ret
  exact ⟨A2, n2, c2, xs, rfl, o2.lower (by omega), by omega, hx, r3.bel_⟩

theorem bundle_tail {xs : List Int} (h : Bundle xs) (h1 : xs.length ≠ 1) : bundleB (xs.drop 1) = true := by
  obtain ⟨a, b, c, d⟩ := h
  have e : ∀ j, (xs.drop 1).getD j 0 = xs.getD (j + 1) 0 := fun j => by
    simp [List.getD_eq_getElem?_getD, Nat.add_comm]
  refine bundleB_mk ⟨by rw [List.length_drop]; omega, by rw [List.length_drop]; omega, fun j hj => ?_, fun j hj => ?_⟩
  · rw [List.length_drop] at hj; rw [e]; exact c _ (by omega)
  · rw [List.length_drop] at hj; rw [e, e]; exact d _ (by omega)

set_option maxHeartbeats 2000000 in
theorem fnBundle_walk (A0 : Option Addr) (n0 c0 : Nat) (z0 : List Int) (w : World) (h0 : RdB w A0 n0 z0) (k0 : WfL .u8 z0) (q0 : n0 ≤ c0) :
    Calls Try.prog 3 #[.slice A0 n0 c0] w fun e w' => e = .returned (.bool true) ∧ Below w.heap.size w w' := by
  by_cases big : n0 ≤ 1048576
  rotate_left
  · go_enter Try.func3, Try.ntmps3
    go_wp2_with fail
    go_ret
    exact ⟨rfl, Below.refl _ _⟩
  go_enter Try.func3, Try.ntmps3
  go_wp2_with fail
  refine (drawIn_any A0 n0 c0 z0 _ h0 (bytes_of k0) big q0).mono ?_
  rintro e w1 ⟨A, n, c, xs, rfl, o1, hn, hx, b1⟩
  go_wp2_with fail
  refine (implStickIn_any A n c xs _ o1.rd (by omega)).mono ?_
  rintro e w2 ⟨rfl, b2⟩
  have b3 := below_then b1 b2
  have o2 := o1.same b2
  go_wp2_with fail
  refine (specStickIn_any A n c xs _ o2.rd (by omega)).mono ?_
  rintro e w3 ⟨rfl, b4⟩
  have b5 := below_then b3 b4
  have o3 := o2.same b4
  by_cases hs : bundleB xs = true
  · have hb := bundleB_true hs
    have HS := Lib.hid hs
    have HB := Lib.hid hb
    have hl := o3.rd.1
    have hn1 : 1 ≤ n := hl ▸ hb.1
    obtain ⟨g, rfl, hg0, hg1⟩ := o3.form hn1
    have hcap : n ≤ c := o3.cap
    have hi := isort_asc hb.2.2.2
    have HI := Lib.hid hi
    have r3 := o3.rd
    have HL := Lib.hid hl
    rw [hs]
    clear hs hb hi hl
    go_wp2_with fail
    refine (implStickSort_any _ n c xs _ r3 (by omega) (fun e => by cases e)).mono ?_
    rw [HI.out, HS.out, doneM_yes HS.out]
    rintro e w4 ⟨A4, n4, c4, rfl, o4, hn4, b6⟩
    have b7 := below_then b5 b6
    have r4 := r3.same b6
    go_wp2_with fail
    refine (sameInts_any A4 _ n4 n c4 c xs _ o4.rd r4 hn4).mono ?_
    rintro e w5 ⟨rfl, b8⟩
    have b9 := below_then b7 b8
    have r5 := r4.same b8
    by_cases h1 : n = 1
    · subst h1
      go_wp2_with fail
      go_ret
      exact ⟨rfl, b9⟩
    · have r6 := r5.drop (k := 1) (by omega)
      have ht := bundle_tail HB.out (by rw [HL.out]; exact h1)
      go_wp2_with fail
      refine (implStickIn_any _ (n - 1) (c - 1) (xs.drop 1) _ r6 (by omega)).mono ?_
      rw [ht]
      rintro e w6 ⟨rfl, b10⟩
      have b11 := below_then b9 b10
      go_wp2_with fail
      go_ret
      exact ⟨rfl, b11⟩
  · rw [Bool.not_eq_true] at hs
    rw [hs]
    clear hs
    go_wp2_with fail
    go_ret
    exact ⟨rfl, b5⟩
end Go.Proofs.Ytgnlefdecjpmeaa
