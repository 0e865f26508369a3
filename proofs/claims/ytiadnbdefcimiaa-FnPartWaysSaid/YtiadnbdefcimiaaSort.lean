/- The library's sort of a row of the call's own, twelve ints at most, and slices.Clone. -/
import Derived.Test.YtiadnbdefcimiaaSortP
import Derived.Test.YtiadnbdefcimiaaKit
import Derived.Test.YtiadnbdefcimiaaI1a
import Derived.Test.YtiadnbdefcimiaaShelf
namespace Go.Proofs.Ytiadnbdefcimiaa
open Go.RowKit

/-- What the row holds ahead of round i of the outer loop, and within it with x at place j. -/
def OutAt (xs ys : List Int) (i : Nat) : Prop := ∀ m, m < xs.length → ys.getD m 0 = if m < i then (isortTo xs i).getD m 0 else xs.getD m 0
def InAt (xs ys : List Int) (i j : Nat) : Prop := ∀ m, m < xs.length → ys.getD m 0 = if m < i + 1 then mv (isortTo xs i) (xs.getD i 0) j m else xs.getD m 0

theorem OutAt.start (xs : List Int) : OutAt xs xs 1 := by
  intro m hm
  by_cases h : m < 1
  · obtain rfl : m = 0 := by omega
    rw [if_pos h]
    simp [isortTo, ins, pos, posTo]
  · rw [if_neg h]
theorem OutAt.inn {xs ys : List Int} {i : Nat} (h : OutAt xs ys i) (_hi : i < xs.length) : InAt xs ys i i := by
  intro m hm
  rw [h m hm]
  by_cases h1 : m < i
  · rw [if_pos h1, if_pos (by omega)]; unfold mv; rw [if_pos h1]
  · by_cases h2 : m = i
    · subst h2; rw [if_neg h1, if_pos (by omega)]; unfold mv; rw [if_neg h1, if_pos rfl]
    · rw [if_neg h1, if_neg (by omega)]
theorem InAt.swap {xs ys : List Int} {i j : Nat} (h : InAt xs ys i (j + 1)) (hi : i < xs.length) (hj : j + 1 ≤ i) (hl : ys.length = xs.length) :
    InAt xs ((ys.set (j + 1) (ys.getD j 0)).set j (ys.getD (j + 1) 0)) i j := by
  intro m hm
  rw [getD_set _ _ _ _ (by simp; omega), getD_set _ _ _ _ (by omega)]
  have e1 : ys.getD (j + 1) 0 = xs.getD i 0 := by
    rw [h (j + 1) (by omega), if_pos (by omega)]; unfold mv; rw [if_neg (by omega), if_pos rfl]
  have e0 : ys.getD j 0 = (isortTo xs i).getD j 0 := by
    rw [h j (by omega), if_pos (by omega)]; unfold mv; rw [if_pos (by omega)]
  rw [e1, e0]
  by_cases h1 : m < i + 1
  · rw [if_pos h1, mv_step]
    by_cases h2 : m = j
    · rw [if_pos h2, if_neg (by omega), if_pos h2]
    · rw [if_neg h2]
      by_cases h3 : m = j + 1
      · rw [if_pos h3, if_pos h3]
      · rw [if_neg h3, if_neg h3, if_neg h2, h m hm, if_pos h1]
  · rw [if_neg h1, if_neg (by omega), if_neg (by omega), h m hm, if_neg h1]
theorem InAt.out {xs ys : List Int} {i j : Nat} (h : InAt xs ys i j) (hj : j = pos (isortTo xs i) (xs.getD i 0)) : OutAt xs ys (i + 1) := by
  intro m hm
  rw [h m hm]
  by_cases h1 : m < i + 1
  · rw [if_pos h1, if_pos h1, isortTo, getD_ins, hj]
  · rw [if_neg h1, if_neg h1]
theorem OutAt.done {xs ys : List Int} {i : Nat} (h : OutAt xs ys i) (hl : ys.length = xs.length) (hi : i = xs.length ∨ xs.length = 0) : ys = isort xs := by
  refine ext_getD (by rw [hl]; exact (length_isortTo xs _).symm) fun m hm => ?_
  rcases hi with hi | hi
  · rw [h m (by omega), if_pos (by omega), hi]; rfl
  · omega
theorem InAt.at_ {xs ys : List Int} {i j : Nat} (h : InAt xs ys i j) (hi : i < xs.length) (hj : j ≤ i) : ys.getD j 0 = xs.getD i 0 := by
  rw [h j (by omega), if_pos (by omega)]; unfold mv; rw [if_neg (by omega), if_pos rfl]
theorem InAt.below_ {xs ys : List Int} {i j : Nat} (h : InAt xs ys i (j + 1)) (hi : i < xs.length) (hj : j + 1 ≤ i) : ys.getD j 0 = (isortTo xs i).getD j 0 := by
  rw [h j (by omega), if_pos (by omega)]; unfold mv; rw [if_pos (by omega)]

/-- The sort's relation: the row is the call's own, only it has turned. -/
def SRel (w : World) (B n c : Nat) (A : Option Addr) (Q : List Int → Prop) (wr : World) : Prop := ∃ ys, Own wr B A n c ys ∧ Q ys ∧ w.grownBy wr (Value.slice A n c).ownBlock
theorem grown_drewN {w wr : World} {row : Option Nat} (h : w.grownBy wr row) (k : Nat) : w.grownBy (wr.drewN k) row := ⟨h.os, h.tape, h.output, h.size, h.block⟩
theorem grown_drew {w wr : World} {row : Option Nat} (h : w.grownBy wr row) : w.grownBy wr.drew row := ⟨h.os, h.tape, h.output, h.size, h.block⟩
theorem SRel.drN {w wr : World} {B n c : Nat} {A : Option Addr} {Q : List Int → Prop} (h : SRel w B n c A Q wr) (k : Nat) : SRel w B n c A Q (wr.drewN k) := by
  obtain ⟨ys, h1, h2, h3⟩ := h; exact ⟨ys, h1, h2, grown_drewN h3 k⟩
theorem SRel.dr {w wr : World} {B n c : Nat} {A : Option Addr} {Q : List Int → Prop} (h : SRel w B n c A Q wr) : SRel w B n c A Q wr.drew := by
  obtain ⟨ys, h1, h2, h3⟩ := h; exact ⟨ys, h1, h2, grown_drew h3⟩
theorem SRel.imp_ {w wr : World} {B n c : Nat} {A : Option Addr} {Q Q' : List Int → Prop} (h : SRel w B n c A Q wr) (hq : ∀ ys, ys.length = n → Q ys → Q' ys) : SRel w B n c A Q' wr := by
  obtain ⟨ys, h1, h2, h3⟩ := h; exact ⟨ys, h1, hq ys h1.len h2, h3⟩
theorem SRel.swap {w wr : World} {B n c g i j : Nat} {xs : List Int} (h : SRel w B n c (some ⟨g, 0, none⟩) (fun ys => InAt xs ys i (j + 1)) wr) (hn : xs.length = n) (hi : i < n) (hj : j + 1 ≤ i) {x y : Int}
    (hx : wr.cell? ⟨g, j + 1, none⟩ = some (.int .i64 x)) (hy : wr.cell? ⟨g, j, none⟩ = some (.int .i64 y)) :
    SRel w B n c (some ⟨g, 0, none⟩) (fun ys => InAt xs ys i j) ((wr.setCell ⟨g, j + 1, none⟩ (.int .i64 y)).setCell ⟨g, j, none⟩ (.int .i64 x)) := by
  obtain ⟨ys, h1, h2, h3⟩ := h
  have ex := h1.cell (j + 1) (by omega)
  have ey := h1.cell j (by omega)
  rw [hx] at ex
  rw [hy] at ey
  have ex' : x = ys.getD (j + 1) 0 := by injection ex with e; injection e
  have ey' : y = ys.getD j 0 := by injection ey with e; injection e
  have s1 := h1.stored (j + 1) y
  have s2 := s1.1.stored j x
  refine ⟨_, s2.1, ?_, grown_trans_row (grown_trans_row h3 s1.2) s2.2⟩
  rw [ex', ey']
  exact h2.swap (by omega) hj (by rw [h1.len, hn])

set_option maxHeartbeats 1000000 in
theorem insertionSort_any (A : Option Addr) (n c B : Nat) (xs : List Int) (w : World) (h : Own w B A n c xs) (hn : n ≤ 1048576) :
    Calls Try.prog 104 #[.slice A n c, .int .i64 0, .int .i64 n] w fun e w' => e = .returned (.tuple #[]) ∧ Own w' B A n c (isort xs) ∧ w.grownBy w' (Value.slice A n c).ownBlock := by
  have HL := Lib.hid h.len
  go_enter Try.func104, Try.ntmps104
  go_wp2
  go_loopw [6, 7] (fun i _ wr => ∃ k : Nat, 1 ≤ k ∧ (k ≤ n ∨ n = 0) ∧ i = .int .i64 k ∧ SRel w B n c A (fun ys => OutAt xs ys k) wr) (fun i _ _ => n - (intOf i).toNat)
  case atStart => exact ⟨1, Nat.le_refl _, by omega, rfl, xs, h, OutAt.start xs, World.grownBy.refl w _⟩
  case round =>
    obtain ⟨k, hk1, hkn, rfl, hs⟩ := hrel
    by_cases hlt : k < n
    · obtain ⟨g, rfl, _, _⟩ := h.form (by omega)
      obtain ⟨wo, rfl⟩ : ∃ wo : World, wo = wr := ⟨_, rfl⟩
      have hin : SRel w B n c (some ⟨g, 0, none⟩) (fun ys => InAt xs ys k k) wo := hs.imp_ (fun ys _ hq => hq.inn (by rw [HL.out]; exact hlt))
      clear hs h
      have hpos : posTo (isortTo xs k) (xs.getD k 0) k = pos (isortTo xs k) (xs.getD k 0) := by unfold pos; rw [length_isortTo]
      have HP := Lib.hid hpos
      clear hpos
      go_wp2
      go_loopw [7] (fun i wr => ∃ j : Nat, j ≤ k ∧ i = .int .i64 j ∧ posTo (isortTo xs k) (xs.getD k 0) j = pos (isortTo xs k) (xs.getD k 0) ∧ SRel w B n c (some ⟨g, 0, none⟩) (fun ys => InAt xs ys k j) wr) (fun i _ => (intOf i).toNat)
      case atStart => exact ⟨k, Nat.le_refl _, rfl, HP.out, hin⟩
      case round =>
        obtain ⟨j, hj, rfl, hp, hs⟩ := hrel
        have HJ := Lib.hid hp
        clear hp hin
        by_cases hj0 : j = 0
        · subst hj0
          have hd : decide ((0 : Int) > 0) = false := by simp
          go_wp2
          go_quiet (fail)
          go_wp2
          go_roundw
          case rel => exact ⟨k + 1, by omega, by omega, by go_num, (hs.drN _).imp_ (fun ys _ hq => hq.out HJ.out)⟩
          case measure => simp [intOf]; omega
        · obtain ⟨m, rfl⟩ : ∃ m, j = m + 1 := ⟨j - 1, by omega⟩
          obtain ⟨x, y, hcx, hcy, hfx, hfy, ex, ey⟩ : ∃ x y, wr.cell? ⟨g, m + 1, none⟩ = some (.int .i64 x) ∧ wr.cell? ⟨g, m, none⟩ = some (.int .i64 y) ∧ wr.frozen? ⟨g, m + 1, none⟩ = false ∧ wr.frozen? ⟨g, m, none⟩ = false ∧ x = xs.getD k 0 ∧ y = (isortTo xs k).getD m 0 := by
            obtain ⟨ys, h1, h2, h3⟩ := hs
            exact ⟨_, _, h1.cell (m + 1) (by omega), h1.cell m (by omega), h1.free _, h1.free _, h2.at_ (by rw [HL.out]; exact hlt) (by omega), h2.below_ (by rw [HL.out]; exact hlt) (by omega)⟩
          have EX := Lib.hid ex
          have EY := Lib.hid ey
          clear ex ey
          have hd : decide (((m : Int) + 1) > 0) = true := by simp
          by_cases hxy : x < y
          · have HD := Lib.hid (show decide (x < y) = true by simpa using hxy)
            have HS := Lib.hid (hs.swap HL.out hlt hj hcx hcy)
            clear hs
            go_wp2
            go_quiet ((go_at_call 93; first | exact quiet_left (less_is HD.out _) | exact quiet_add_left (less_is HD.out _)))
            go_wp2
            go_region
            go_wp2
            go_roundw
            case rel =>
              refine ⟨m, by omega, by go_num, by rw [← HJ.out, posTo_go (by rw [← EX.out, ← EY.out]; exact hxy)], ?_⟩
              exact HS.out.drN _
            case measure => simp [intOf]
          · have HD := Lib.hid (show decide (x < y) = false by simpa using hxy)
            go_wp2
            go_quiet ((go_at_call 93; first | exact quiet_left (less_is HD.out _) | exact quiet_add_left (less_is HD.out _)))
            go_wp2
            go_roundw
            case rel => exact ⟨k + 1, by omega, by omega, by go_num, (hs.drN _).imp_ (fun ys _ hq => hq.out (by rw [← HJ.out, posTo_stop (by rw [← EX.out, ← EY.out]; omega)]))⟩
            case measure => simp [intOf]; omega
    · go_wp2
      go_end0
      obtain ⟨ys, h1, h2, h3⟩ := hs
      have hd := h2.done (by rw [h1.len, HL.out]) (by rw [HL.out]; omega)
      subst hd
      exact ⟨rfl, h1, h3⟩

theorem bitsLen_any (n : Nat) (h : n ≤ 1048576) (w : World) : Calls Try.prog 99 #[.int .u64 n] w fun e w' => (∃ k : Int, e = .returned (.int .i64 k)) ∧ w = w' :=
  (Try.bits_Len n w (by omega) (by omega)).mono fun _ _ hh => ⟨⟨_, hh.1⟩, hh.2.symm⟩

set_option maxHeartbeats 1000000 in
theorem pdqSmall_any (A : Option Addr) (n c B : Nat) (xs : List Int) (k : Int) (w : World) (h : Own w B A n c xs) (hn : n ≤ 12) :
    Calls Try.prog 98 #[.slice A n c, .int .i64 0, .int .i64 n, .int .i64 k] w fun e w' => e = .returned (.tuple #[]) ∧ Own w' B A n c (isort xs) ∧ w.grownBy w' (Value.slice A n c).ownBlock := by
  go_enter Try.func98, Try.ntmps98
  go_wp2_with fail
  refine wp_loop_rounds 1 ?_
  rw [rounds_succ]
  go_wp2_with fail
  refine (insertionSort_any A n c B xs _ h (by omega)).mono ?_
  rintro e w2 ⟨rfl, ho, hg⟩
  go_wp2_with fail
  refine bodyPost_ret (results_none rfl _ _ _) rfl ?_
  exact ⟨rfl, ho, hg⟩

set_option maxHeartbeats 1000000 in
theorem slicesSort_any (A : Option Addr) (n c B : Nat) (xs : List Int) (w : World) (h : Own w B A n c xs) (hn : n ≤ 12) :
    Calls Try.prog 89 #[.slice A n c] w fun e w' => e = .returned (.tuple #[]) ∧ Own w' B A n c (isort xs) ∧ w.grownBy w' (Value.slice A n c).ownBlock := by
  go_enter Try.func89, Try.ntmps89
  go_wp2_with fail
  refine (bitsLen_any n (by omega) _).mono ?_
  rintro e w1 ⟨⟨k, rfl⟩, rfl⟩
  go_wp2_with fail
  refine (pdqSmall_any A n c B xs k _ h hn).mono ?_
  rintro e w2 ⟨rfl, ho, hg⟩
  go_wp2_with fail
  go_end0
  exact ⟨rfl, ho, hg⟩

theorem clone_any (A : Option Addr) (n c : Nat) (xs : List Int) (w : World) (h : Rd w A n xs) (hn : n ≤ 1048576) (hA : A = none → n = 0 ∧ c = 0) :
    Calls Try.prog 88 #[.slice A n c] w fun e w' => ∃ A' c', e = .returned (.slice A' n c') ∧ Own w' w.heap.size A' n c' xs ∧ Below w.heap.size w w' := by
  rcases A with _ | ad
  · obtain ⟨rfl, rfl⟩ := hA rfl
    obtain rfl : xs = [] := List.eq_nil_of_length_eq_zero h.1
    have hnil := @Lib.run_eql_slice_nil Try.prog
    go_enter Try.func88, Try.ntmps88
    go_wp2
    go_ret
    exact ⟨none, 0, rfl, ⟨rfl, .inl ⟨rfl, rfl⟩⟩, Below.refl _ _⟩
  · have hl := Own.lit w (Nat.le_refl _) [] (by simp)
    have hr := h.same (below_alloc (Below.refl _ _) (.cells #[] 3))
    have hnn := fun (W : World) => Lib.run_eql_slice_nil (P := Try.prog) W 39 3 (some ad) n c 0 0 Try.underlying39
    go_enter Try.func88, Try.ntmps88
    go_wp2_with (at_builtin; refine wpList_appT 39 Try.underlying39 rfl (.tmp 5) (.tmp 6) rfl rfl hl rfl hr (by simp; omega) (by simp) ?_; intro A' c' W' ho' hg')
    go_ret
    have hb := app_mark (below_alloc (Below.refl _ _) _) hl (Nat.le_refl _) hg'
    simp only [Nat.zero_add, List.nil_append] at ho'
    exact ⟨A', c', ret_sl (by simp), ho', hb⟩

theorem Own.nilA {w : World} {B n c : Nat} {A : Option Addr} {xs : List Int} (h : Own w B A n c xs) : A = none → n = 0 ∧ c = 0 := by
  rintro rfl
  rcases h.2 with ⟨e, h0⟩ | ⟨g, cap, cur, e, _⟩
  · injection e with _ _ e; exact ⟨h0, e⟩
  · injection e with e; cases e

set_option maxHeartbeats 1000000 in
theorem with_any (A : Option Addr) (n c : Nat) (xs : List Int) (x : Int) (w : World) (h : Rd w A n xs) (hn : n ≤ 11) (hA : A = none → n = 0 ∧ c = 0) :
    Calls Try.prog 61 #[.slice A n c, .int .i64 x] w fun e w' => ∃ A' c', e = .returned (.slice A' (n + 1) c') ∧ Own w' w.heap.size A' (n + 1) c' (isort (xs ++ [x])) ∧ Below w.heap.size w w' := by
  go_enter Try.func61, Try.ntmps61
  go_wp2_with fail
  refine (clone_any A n c xs _ h (by omega) hA).mono ?_
  rintro e w1 ⟨A1, c1, rfl, o1, b1⟩
  have hs1 := b1.size
  go_wp2_with (at_builtin; refine wpList_appT 39 Try.underlying39 rfl (.tmp 7) (.tmp 9) rfl rfl (o1.al _) rfl (rd_one _ _) (by omega) (by simp; omega) ?_; intro A2 c2 w2 o2 g2)
  have b2 := app_mark (below_alloc b1 _) (o1.al _) (Nat.le_refl _) g2
  refine (slicesSort_any A2 (n + 1) c2 _ _ _ o2 (by omega)).mono ?_
  rintro e w3 ⟨rfl, o3, g3⟩
  have b3 := app_mark b2 o2 (Nat.le_refl _) g3
  go_wp2_with fail
  go_ret
  exact ⟨A2, c2, rfl, o3, b3⟩
end Go.Proofs.Ytiadnbdefcimiaa
