/- slices.Grow onto nil, slices.Concat of two slices. -/
import Derived.Test.YtaffdppmpfgghaaPut
import Derived.Lib.AppendZeros
namespace Go.Proofs.Ytaffdppmpfgghaa
open Go.RowKit

theorem Own.grew (w : World) {B c : Nat} (hB : B ≤ w.heap.size) (cs : Array Value) (hs : cs.size = c) (hm : c ≤ maxLen) : Own (w.alloc (.cells cs 3)) B (some ⟨w.heap.size, 0, none⟩) 0 c [] :=
  World.ownsRow_made (e := 3) (size := 1) w cs c hB hm (by omega)
theorem zeros_size (z : Array Value) (n c : Nat) (hz : z.size = 1) (h : n ≤ c) : (Builtin.zeroCells z n ++ Builtin.zeroCells z (c - n)).size = c := by
  simp [Builtin.zeroCells, hz]; omega

set_option maxHeartbeats 400000 in
set_option maxRecDepth 100000 in
theorem grow_any (n : Nat) (w : World) (h1 : 1 ≤ n) (h2 : n ≤ 1048576) :
    Calls Try.prog 140 #[.slice none 0 0, .int .i64 n] w fun e w' => ∃ g c', e = .returned (.slice (some ⟨g, 0, none⟩) 0 c') ∧ Own w' w.heap.size (some ⟨g, 0, none⟩) 0 c' [] ∧ Below w.heap.size w w' := by
  obtain ⟨i0, hi, hz0, hz1, hz2⟩ := info_parts intInfo
  have q1 : 0 < i0.size := by rw [hz1]; omega
  have q2 : (n : Int) ≤ 9223372036854775807 := by omega
  have q3 : n * i0.bytes ≤ 281474976710656 := by rw [hz2]; omega
  go_enter Try.func140, Try.ntmps140
  go_wp2_with (at_builtin; refine Lib.wpList_append_run _ rfl (.tmp 20) (.tmp 21) 23 3 rfl _ _ rfl rfl _ _ (Lib.run_append_nil_zeros _ 23 3 _ 3 i0 (.int .i64 0) .i64 .i64 Try.underlying23 Try.underlying3 hi hz0 n h1 q1 q2 q3) ?_)
  go_ret
  have hge := grownCap_ge w n 0 3
  have hle := grownCap_le_maxLen w n 0 3 (by unfold maxLen; omega)
  exact ⟨w.heap.size, grownCap w n 0 3, rfl, Own.grew w.drew (Nat.le_refl _) _ (zeros_size _ n _ rfl hge) hle, (below_alloc (Below.refl w.heap.size w).drew _)⟩

def sz2 (n m : Nat) : Nat → Nat
  | 0 => 0
  | 1 => n
  | _ => n + m
def part2 (xs ys : List Int) : Nat → List Int
  | 0 => []
  | 1 => xs
  | _ => xs ++ ys

set_option maxHeartbeats 1000000 in
theorem concat_any (A1 A2 : Option Addr) (n1 n2 c1 c2 b : Nat) (xs ys : List Int) (w : World) (hb : b < w.heap.size) (k0 : w.cell? ⟨b, 0, none⟩ = some (.slice A1 n1 c1)) (k1 : w.cell? ⟨b, 1, none⟩ = some (.slice A2 n2 c2))
    (hx : Rd w A1 n1 xs) (hy : Rd w A2 n2 ys) (h1 : 1 ≤ n1 + n2) (h2 : n1 + n2 ≤ 1000) :
    Calls Try.prog 92 #[.slice (some ⟨b, 0, none⟩) 2 2] w fun e w' => ∃ A' c', e = .returned (.slice A' (n1 + n2) c') ∧ Own w' w.heap.size A' (n1 + n2) c' (xs ++ ys) ∧ Below w.heap.size w w' := by
  go_enter Try.func92, Try.ntmps92
  go_wp2
  go_loopw [3, 5, 11] (fun s _ i wr => ∃ k : Nat, k ≤ 2 ∧ i = .int .i64 k ∧ s = .int .i64 (sz2 n1 n2 k) ∧ Below w.heap.size w wr) (fun _ _ i _ => 2 - (intOf i).toNat)
  case atStart => exact ⟨0, by omega, rfl, rfl, Below.refl _ _⟩
  case round =>
    obtain ⟨k, hk, rfl, rfl, hbl⟩ := hrel
    have q0 := (hbl.cell (p := ⟨b, 0, none⟩) hb).trans k0
    have q1 := (hbl.cell (p := ⟨b, 1, none⟩) hb).trans k1
    match k, hk with
    | 0, _ =>
      simp only [sz2]
      go_wp2
      go_roundw
      case rel => exact ⟨1, by omega, by go_num, by simp, hbl⟩
      case measure => simp [intOf]
    | 1, _ =>
      simp only [sz2]
      go_wp2
      go_roundw
      case rel => exact ⟨2, by omega, by go_num, by simp, hbl⟩
      case measure => simp [intOf]
    | 2, _ =>
      simp only [sz2]
      go_wp2_with fail
      first | rw [show ((n1 : Int) + (n2 : Int)) = ((n1 + n2 : Nat) : Int) by omega] | skip
      refine (grow_any (n1 + n2) _ h1 (by omega)).mono ?_
      rintro e w3 ⟨g, c3, rfl, o3, b3⟩
      have b4 := below_then hbl b3
      have o4 := o3.lower hbl.size
      clear q0 q1 o3 b3
      go_wp2_with fail
      go_loopw [6, 8, 27] (fun s _ i wx => ∃ (k : Nat) (A : Option Addr) (c : Nat), k ≤ 2 ∧ i = .int .i64 k ∧ s = .slice A (sz2 n1 n2 k) c ∧ Own wx w.heap.size A (sz2 n1 n2 k) c (part2 xs ys k) ∧ Below w.heap.size w wx) (fun _ _ i _ => 2 - (intOf i).toNat)
      case atStart => exact ⟨0, _, _, by omega, rfl, rfl, o4, b4⟩
      case round =>
        clear o4 b4 hbl
        obtain ⟨k, A, c, hk, rfl, rfl, ho, hbl⟩ := hrel
        have q0 := (hbl.cell (p := ⟨b, 0, none⟩) hb).trans k0
        have q1 := (hbl.cell (p := ⟨b, 1, none⟩) hb).trans k1
        match k, hk with
        | 0, _ =>
          simp only [sz2, part2] at ho ⊢
          go_wp2_with (at_builtin; refine wpList_app rfl (.tmp 31) (.tmp 32) rfl rfl ho rfl (hx.below (Nat.le_refl _) hbl) (by omega) hbl.size ?_; intro A' c' W' ho' hg'; simp only [Nat.zero_add, List.nil_append] at ho'; have hb' := app_mark hbl ho (Nat.le_refl _) hg')
          go_roundw
          case rel => exact ⟨1, A', c', by omega, by go_num, by simp, ho', hb'⟩
          case measure => simp [intOf]
        | 1, _ =>
          simp only [sz2, part2] at ho ⊢
          go_wp2_with (at_builtin; refine wpList_app rfl (.tmp 31) (.tmp 32) rfl rfl ho rfl (hy.below (Nat.le_refl _) hbl) (by omega) hbl.size ?_; intro A' c' W' ho' hg'; have hb' := app_mark hbl ho (Nat.le_refl _) hg')
          go_roundw
          case rel => exact ⟨2, A', c', by omega, by go_num, by simp, ho', hb'⟩
          case measure => simp [intOf]
        | 2, _ =>
          simp only [sz2, part2] at ho ⊢
          go_wp2
          go_ret
          exact ⟨A, c, rfl, ho, hbl⟩
end Go.Proofs.Ytaffdppmpfgghaa
