/- The draws of FnPut and FnDrop: a bundle, and a small number. -/
import Derived.Test.YtaffdppmpfgghaaLaw1c
namespace Go.Proofs.Ytaffdppmpfgghaa
open Go.RowKit

/-- What a draw of a list and a number leaves. -/
def Drawn2 (w : World) (top : Nat) (e : Ending) (w' : World) : Prop :=
  ∃ (A : Option Addr) (n c : Nat) (xs : List Int) (v : Int), e = .returned (.tuple #[.slice A n c, .int .i64 v]) ∧ Own w' w.heap.size A n c xs ∧ n ≤ top ∧ Lens xs ∧ -1000 ≤ v ∧ v ≤ 1000 ∧ Below w.heap.size w w'

set_option maxHeartbeats 2000000 in
theorem drawPut_any (A : Option Addr) (n c : Nat) (bs : List Int) (w : World) (h : RdB w A n bs) (hb : Bytes bs) (hn : n ≤ 1048576) (hc : n ≤ c) :
    Calls Try.prog 48 #[.slice A n c] w (Drawn2 w 11) := by
  go_enter Try.func48, Try.ntmps48
  go_wp2_with fail
  refine (l6Open_any A n c bs _ h hb hn hc).mono ?_
  rintro e w1 ⟨g, rfl, _, _, r1, _⟩
  have hs := r1.bel_.size
  have hl := r1.lt
  go_wp2_with fail
  refine (bundle_any w g 0 _ r1 (by omega)).mono ?_
  rintro e w2 ⟨A2, n2, c2, p', xs, rfl, o2, hn2, hx, r2, hp', g2⟩
  go_wp2_with fail
  refine (l91Length_any w g _ _ r2 (by omega)).mono ?_
  rintro e w3 ⟨a, rfl, ha1, ha2, r3, g3⟩
  have o3 := o2.far g3 (fun j e => by cases e; exact .inl hl)
  go_wp2_with fail
  refine (pick_any w g _ 24 _ r3 (by omega) (by omega) (by omega)).mono ?_
  rintro e w4 ⟨v, rfl, hv0, hv, r4, g4⟩
  have hv := hv (by omega)
  have o4 := o3.far g4 (fun j e => by cases e; exact .inl hl)
  go_wp2_with fail
  go_ret2
  exact ⟨A2, n2, c2, xs, _, rfl, o4.lower hs, hn2, hx, by omega, by omega, r4.bel_⟩
end Go.Proofs.Ytaffdppmpfgghaa
