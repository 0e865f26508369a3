/- Contracts of the helpers of the laws: copies, comparisons, marks. -/
import Derived.Test.YtkjhkcnmhakfcaaBase
namespace Go.Proofs.Ytkjhkcnmhakfcaa
open Go.RowKit

/-- What the copy's loop keeps: the first k numbers are there. -/
def CpRel (w : World) (n : Nat) (zs : List Int) (k : Nat) (wr : World) : Prop :=
  ∃ ys, Own wr w.heap.size (some ⟨w.heap.size, 0, none⟩) n n ys ∧ (∀ j, j < k → ys.getD j 0 = zs.getD j 0) ∧ Below w.heap.size w wr

theorem CpRel.step {w wr : World} {n k : Nat} {zs : List Int} (h : CpRel w n zs k wr) (hk : k < n) : CpRel w n zs (k + 1) (wr.setCell ⟨w.heap.size, k, none⟩ (.int .i64 (zs.getD k 0))) := by
  obtain ⟨ys, ho, hy, hb⟩ := h
  refine ⟨ys.set k (zs.getD k 0), (ho.stored k _).1, fun j hj => ?_, hb.setCell (p := ⟨w.heap.size, k, none⟩) (Nat.le_refl _) _⟩
  rw [getD_set _ _ _ _ (by rw [ho.len]; exact hk)]
  split
  · rename_i e; rw [e]
  · exact hy j (by omega)

set_option maxHeartbeats 400000 in
theorem toIntS_any (A : Option Addr) (n c : Nat) (zs : List Int) (w : World) (h : Rd w A n zs) (hn : n ≤ 1048576) :
    Calls Try.prog 75 #[.slice A n c] w fun e w' => ∃ g, e = .returned (.slice (some ⟨g, 0, none⟩) n n) ∧ Own w' w.heap.size (some ⟨g, 0, none⟩) n n zs ∧ Below w.heap.size w w' := by
  obtain ⟨i0, hi, hz0, hz1, hz2⟩ := info_parts intInfo
  go_enter Try.func75, Try.ntmps75
  go_wp2_with (first
    | (at_make; refine wpList_make_full _ rfl _ _ 39 rfl w.heap.size 3 i0 (.int .i64 0) 1 Try.underlying39 hi hz0 hz1 _ _ _ _ n rfl rfl rfl rfl (by rw [hz2]; omega) (by unfold maxLen; omega) (Nat.le_refl _) ?_; intro w1 hown hg1))
  go_loopw [4] (fun i wr => ∃ k : Nat, k ≤ n ∧ i = .int .i64 k ∧ CpRel w n zs k wr) (fun i _ => n - (intOf i).toNat)
  case atStart =>
    have e : (madeCells (Value.int .i64 0).cells (n * 1)).toList = ints (List.replicate n 0) := by
      rw [show (Value.int .i64 0).cells = #[.int .i64 0] from rfl, toList_madeCells_one]; simp
    rw [e] at hown
    exact ⟨0, Nat.zero_le _, rfl, _, hown, fun j hj => absurd hj (by omega), below_row hg1 (Nat.le_refl _) (fun k e => by cases e)⟩
  case round =>
    obtain ⟨k, hk, rfl, hrel⟩ := hrel
    by_cases hlt : k < n
    · obtain ⟨b, off, rfl, hbl, hc⟩ := h.2 (by omega)
      have hstep := Lib.hid (hrel.step hlt)
      obtain ⟨ys, ho, _, hb⟩ := hrel
      have hcx : wr.cell? ⟨b, off + k, none⟩ = some (.int .i64 (zs.getD k 0)) := (hb.cell (p := ⟨b, off + k, none⟩) hbl).trans (hc k hlt)
      have hox := ho.cell k hlt
      have hfx := ho.free k
      clear hc ho hb h
      go_wp2
      go_roundw
      case rel => exact ⟨k + 1, by omega, by go_num, by simpa using hstep.out⟩
      case measure => simp [intOf]; omega
    · go_wp2
      go_ret
      obtain ⟨ys, ho, hy, hb⟩ := hrel
      obtain rfl : k = n := by omega
      have : ys = zs := ext_getD (by rw [ho.len, h.1]) (fun j hj => hy j (by rw [← ho.len]; exact hj))
      subst this
      exact ⟨w.heap.size, rfl, ho, hb⟩


set_option maxHeartbeats 400000 in
theorem eqIntS_any (A A' : Option Addr) (n c n' c' : Nat) (xs ys : List Int) (w : World) (h : Rd w A n xs) (h' : Rd w A' n' ys) (hn : n ≤ 1048576) (hn' : n' ≤ 1048576) :
    Calls Try.prog 77 #[.slice A n c, .slice A' n' c'] w fun e w' => e = .returned (.bool (decide (xs = ys))) ∧ Below w.heap.size w w' := by
  by_cases hl : n = n'
  · subst hl
    have hm : (((n : Int)) != (n : Int)) = false := by simp
    go_enter Try.func77, Try.ntmps77
    go_wp2
    go_loopw [5] (fun i wr => ∃ k : Nat, k ≤ n ∧ i = .int .i64 k ∧ (∀ j, j < k → xs.getD j 0 = ys.getD j 0) ∧ Below w.heap.size w wr) (fun i _ => n - (intOf i).toNat)
    case atStart => exact ⟨0, Nat.zero_le _, rfl, fun j hj => absurd hj (by omega), Below.refl _ _⟩
    case round =>
      obtain ⟨k, hk, rfl, hsame, hb⟩ := hrel
      have HS := Lib.hid hsame
      clear hsame
      by_cases hlt : k < n
      · obtain ⟨b, off, rfl, hbl, hc⟩ := h.2 (by omega)
        obtain ⟨b', off', rfl, hbl', hc'⟩ := h'.2 (by omega)
        have hcx : wr.cell? ⟨b, off + k, none⟩ = some (.int .i64 (xs.getD k 0)) := (hb.cell (p := ⟨b, off + k, none⟩) hbl).trans (hc k hlt)
        have hcy : wr.cell? ⟨b', off' + k, none⟩ = some (.int .i64 (ys.getD k 0)) := (hb.cell (p := ⟨b', off' + k, none⟩) hbl').trans (hc' k hlt)
        have hx := h.1
        have hy := h'.1
        clear hc hc' h h'
        obtain ⟨x, ex⟩ : ∃ x, x = xs.getD k 0 := ⟨_, rfl⟩
        obtain ⟨y, ey⟩ : ∃ y, y = ys.getD k 0 := ⟨_, rfl⟩
        rw [← ex] at hcx
        rw [← ey] at hcy
        have EX := Lib.hid ex
        have EY := Lib.hid ey
        have HX := Lib.hid hx
        have HY := Lib.hid hy
        clear ex ey hx hy
        by_cases hxy : x = y
        · subst hxy
          go_wp2
          go_quiet (fail)
          go_wp2
          go_roundw
          case rel =>
            refine ⟨k + 1, by omega, by go_num, fun j hj => ?_, below_drewN hb _⟩
            by_cases hjk : j = k
            · subst hjk; rw [← EX.out, ← EY.out]
            · exact HS.out j (by omega)
          case measure => simp [intOf]; omega
        · have hne : (x != y) = true := by simpa using hxy
          go_wp2
          go_quiet (fail)
          go_wp2
          go_ret
          exact ⟨by
            have : xs ≠ ys := by rintro rfl; exact hxy (EX.out.trans EY.out.symm)
            simp [this], below_drewN hb _⟩
      · go_wp2
        go_ret
        obtain rfl : k = n := by omega
        have : xs = ys := ext_getD (by rw [h.1, h'.1]) (fun j hj => HS.out j (by rw [← h.1]; exact hj))
        exact ⟨by simp [this], hb⟩
  · have hm : (((n : Int)) != (n' : Int)) = true := by simp; omega
    go_enter Try.func77, Try.ntmps77
    go_wp2
    go_ret
    exact ⟨by
      have : xs ≠ ys := by rintro rfl; exact hl (h.1.symm.trans h'.1)
      simp [this], Below.refl _ _⟩

theorem eqIntS_same (A A' : Option Addr) (n c n' c' : Nat) (xs : List Int) (w : World) (h : Rd w A n xs) (h' : Rd w A' n' xs) (hn : n ≤ 1048576) (hn' : n' ≤ 1048576) :
    Calls Try.prog 77 #[.slice A n c, .slice A' n' c'] w fun e w' => e = .returned (.bool true) ∧ Below w.heap.size w w' :=
  (eqIntS_any A A' n c n' c' xs xs w h h' hn hn').mono fun e w' hh => ⟨by rw [hh.1]; simp, hh.2⟩

/-- k, k + 1, .. -/
def marks (k : Int) (n : Nat) : List Int := (List.range n).map fun (j : Nat) => k + (j : Int)
theorem marks_getD (k : Int) (n j : Nat) (h : j < n) : (marks k n).getD j 0 = k + j := by simp [marks, h]

def MarkRel (w : World) (B : Nat) (A : Option Addr) (n c : Nat) (k0 : Int) (k : Nat) (wr : World) : Prop :=
  ∃ ys, Own wr B A n c ys ∧ (∀ j, j < k → ys.getD j 0 = k0 + j) ∧ w.grownBy wr (Value.slice A n c).ownBlock
theorem grown_trans_row {a b c : World} {row : Option Nat} (h : a.grownBy b row) (k : b.grownBy c row) : a.grownBy c row :=
  ⟨k.os.trans h.os, k.tape.trans h.tape, k.output.trans h.output, Nat.le_trans h.size k.size, fun i hi hne => (k.block i (Nat.lt_of_lt_of_le hi h.size) hne).trans (h.block i hi hne)⟩
theorem MarkRel.step {w wr : World} {B n c g k : Nat} {k0 : Int} (h : MarkRel w B (some ⟨g, 0, none⟩) n c k0 k wr) (hk : k < n) : MarkRel w B (some ⟨g, 0, none⟩) n c k0 (k + 1) (wr.setCell ⟨g, k, none⟩ (.int .i64 (k0 + k))) := by
  obtain ⟨ys, ho, hy, hg⟩ := h
  refine ⟨ys.set k (k0 + k), (ho.stored k _).1, fun j hj => ?_, grown_trans_row hg (ho.stored k _).2⟩
  rw [getD_set _ _ _ _ (by rw [ho.len]; exact hk)]
  split
  · rename_i e; rw [e]
  · exact hy j (by omega)

theorem MarkRel.done {w wr : World} {B n c : Nat} {A : Option Addr} {k0 : Int} (h : MarkRel w B A n c k0 n wr) : Own wr B A n c (marks k0 n) ∧ w.grownBy wr (Value.slice A n c).ownBlock := by
  obtain ⟨ys, ho, hy, hg⟩ := h
  have : ys = marks k0 n := by
    refine ext_getD (by rw [ho.len]; simp [marks]) fun j hj => ?_
    rw [ho.len] at hj
    rw [hy j hj, marks_getD _ _ _ hj]
  subst this
  exact ⟨ho, hg⟩

set_option maxHeartbeats 400000 in
theorem markIntS_any (A : Option Addr) (n c B : Nat) (xs : List Int) (k0 : Int) (w : World) (h : Own w B A n c xs) (hn : n ≤ 1048576) (hk0 : 0 ≤ k0) (hk1 : k0 ≤ 1099511627776) :
    Calls Try.prog 81 #[.slice A n c, .int .i64 k0] w fun e w' => e = .returned (.int .i64 (k0 + n)) ∧ Own w' B A n c (marks k0 n) ∧ w.grownBy w' (Value.slice A n c).ownBlock := by
  go_enter Try.func81, Try.ntmps81
  go_wp2
  go_loopw [1, 5] (fun q i wr => ∃ k : Nat, k ≤ n ∧ i = .int .i64 k ∧ q = .int .i64 (k0 + k) ∧ MarkRel w B A n c k0 k wr) (fun _ i _ => n - (intOf i).toNat)
  case atStart => exact ⟨0, Nat.zero_le _, rfl, by simp, xs, h, fun j hj => absurd hj (by omega), World.grownBy.refl w _⟩
  case round =>
    obtain ⟨k, hk, rfl, rfl, hrel⟩ := hrel
    by_cases hlt : k < n
    · obtain ⟨g, rfl, _, _⟩ := h.form (by omega)
      have hstep := Lib.hid (hrel.step hlt)
      obtain ⟨ys, ho, _, _⟩ := hrel
      have hox := ho.cell k hlt
      have hfx := ho.free k
      clear ho h
      go_wp2
      go_roundw
      case rel => exact ⟨k + 1, by omega, by go_num, by go_num, hstep.out⟩
      case measure => simp [intOf]; omega
    · go_wp2
      go_ret
      obtain rfl : k = n := by omega
      exact ⟨rfl, hrel.done⟩

set_option maxHeartbeats 400000 in
theorem heldIntS_any (A : Option Addr) (n c : Nat) (k0 : Int) (w : World) (h : Rd w A n (marks k0 n)) (hn : n ≤ 1048576) (hk0 : 0 ≤ k0) (hk1 : k0 ≤ 1099511627776) :
    Calls Try.prog 82 #[.slice A n c, .int .i64 k0] w fun e w' => e = .returned (.int .i64 (k0 + n)) ∧ Below w.heap.size w w' := by
  go_enter Try.func82, Try.ntmps82
  go_wp2
  go_loopw [1, 5] (fun q i wr => ∃ k : Nat, k ≤ n ∧ i = .int .i64 k ∧ q = .int .i64 (k0 + k) ∧ Below w.heap.size w wr) (fun _ i _ => n - (intOf i).toNat)
  case atStart => exact ⟨0, Nat.zero_le _, rfl, by simp, Below.refl _ _⟩
  case round =>
    obtain ⟨k, hk, rfl, rfl, hb⟩ := hrel
    by_cases hlt : k < n
    · obtain ⟨b, off, rfl, hbl, hc⟩ := h.2 (by omega)
      have hcx : wr.cell? ⟨b, off + k, none⟩ = some (.int .i64 (k0 + k)) := by
        rw [← marks_getD k0 n k hlt]
        exact (hb.cell (p := ⟨b, off + k, none⟩) hbl).trans (hc k hlt)
      clear hc h
      have hne : (k0 + (k : Int) != k0 + (k : Int)) = false := by simp
      go_wp2
      go_roundw
      case rel => exact ⟨k + 1, by omega, by go_num, by go_num, hb⟩
      case measure => simp [intOf]; omega
    · go_wp2
      go_ret
      obtain rfl : k = n := by omega
      exact ⟨rfl, hb⟩
end Go.Proofs.Ytkjhkcnmhakfcaa
