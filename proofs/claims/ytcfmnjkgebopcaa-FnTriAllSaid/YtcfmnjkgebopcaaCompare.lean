/- slices.Compare at two rows of three; slices.SortFunc over rows of three. -/
import Derived.Test.YtcfmnjkgebopcaaRowSort
import Derived.Test.YtcfmnjkgebopcaaTri
import Derived.Test.YtcfmnjkgebopcaaShelf
import Derived.Test.YtcfmnjkgebopcaaSf
namespace Go.Proofs.Ytcfmnjkgebopcaa
open Go.RowKit Go.Sort Go.Lib Go.Shelf

theorem cmpCompare_any (x y : Int) (w : World) : Calls Try.prog 163 #[.int .i64 x, .int .i64 y] w fun e w' => e = .returned (.int .i64 (Lib.compareInt x y)) ∧ w = w' :=
  (Try.cmp_Compare_int x y w).mono fun _ _ hh => ⟨hh.1, hh.2.symm⟩
theorem cmp3_by (a b c x y z : Int) : cmp3 (a, b, c) (x, y, z) = if Lib.compareInt a x = 0 then (if Lib.compareInt b y = 0 then Lib.compareInt c z else Lib.compareInt b y) else Lib.compareInt a x := by
  unfold cmp3 Lib.compareInt
  dsimp only
  repeat' split
  all_goals omega

set_option maxRecDepth 100000 in
set_option maxHeartbeats 4000000 in
theorem compare_any (g h : Nat) (s t : T3) (W : World) (hs : TripAt W g s) (ht : TripAt W h t) :
    Calls Try.prog 149 #[rowV g, rowV h] W fun e w' => e = .returned (.int .i64 (cmp3 s t)) ∧ W = w' := by
  obtain ⟨a, b, c⟩ := s
  obtain ⟨x, y, z⟩ := t
  obtain ⟨p0, p1, p2, _, _, _⟩ := three_cells hs
  obtain ⟨q0, q1, q2, _, _, _⟩ := three_cells ht
  rw [cmp3_by]
  have c0 := fun W => cmpCompare_any a x W
  have c1 := fun W => cmpCompare_any b y W
  have c2 := fun W => cmpCompare_any c z W
  generalize Lib.compareInt a x = r0 at *
  generalize Lib.compareInt b y = r1 at *
  generalize Lib.compareInt c z = r2 at *
  clear hs ht
  by_cases e0 : r0 = 0
  · subst e0
    rw [if_pos rfl]
    by_cases e1 : r1 = 0
    · subst e1
      rw [if_pos rfl]
      by_cases e2 : r2 = 0
      · subst e2
        go_enter Try.func149, Try.ntmps149
        go_wp2_with fail
        refine wp_loop_rounds 4 ?_
        rw [rounds_succ]
        go_wp2_with (first | (refine (c0 _).mono ?_; rintro e w' ⟨rfl, rfl⟩))
        rw [rounds_succ]
        go_wp2_with (first | (refine (c1 _).mono ?_; rintro e w' ⟨rfl, rfl⟩))
        rw [rounds_succ]
        go_wp2_with (first | (refine (c2 _).mono ?_; rintro e w' ⟨rfl, rfl⟩))
        rw [rounds_succ]
        go_wp2_with fail
        go_ret
        exact ⟨rfl, rfl⟩
      · have d2 : (r2 != 0) = true := by simpa using e2
        go_enter Try.func149, Try.ntmps149
        go_wp2_with fail
        refine wp_loop_rounds 3 ?_
        rw [rounds_succ]
        go_wp2_with (first | (refine (c0 _).mono ?_; rintro e w' ⟨rfl, rfl⟩))
        rw [rounds_succ]
        go_wp2_with (first | (refine (c1 _).mono ?_; rintro e w' ⟨rfl, rfl⟩))
        rw [rounds_succ]
        go_wp2_with (first | (refine (c2 _).mono ?_; rintro e w' ⟨rfl, rfl⟩))
        go_ret
        exact ⟨rfl, rfl⟩
    · have d1 : (r1 != 0) = true := by simpa using e1
      rw [if_neg e1]
      go_enter Try.func149, Try.ntmps149
      go_wp2_with fail
      refine wp_loop_rounds 2 ?_
      rw [rounds_succ]
      go_wp2_with (first | (refine (c0 _).mono ?_; rintro e w' ⟨rfl, rfl⟩))
      rw [rounds_succ]
      go_wp2_with (first | (refine (c1 _).mono ?_; rintro e w' ⟨rfl, rfl⟩))
      go_ret
      exact ⟨rfl, rfl⟩
  · have d0 : (r0 != 0) = true := by simpa using e0
    rw [if_neg e0]
    go_enter Try.func149, Try.ntmps149
    go_wp2_with fail
    refine wp_loop_rounds 1 ?_
    rw [rounds_succ]
    go_wp2_with (first | (refine (c0 _).mono ?_; rintro e w' ⟨rfl, rfl⟩))
    go_ret
    exact ⟨rfl, rfl⟩

theorem rowOf_at {w : World} {B n c : Nat} {A : Option Addr} {gs : List Nat} {L : List T3} (h : OwnT w B A n c gs L) (p : RowOf (gs.zip L)) : TripAt w p.1.1 p.1.2 := by
  obtain ⟨j, hj, ej⟩ := List.getElem_of_mem p.2
  have hjL : j < L.length := by simp [h.len] at hj; exact hj
  have := zip_getD h.len hjL
  rw [List.getElem?_eq_getElem hj, ej] at this
  have e3 : p.1 = (gs.getD j 0, L.getD j t0) := by simpa using this
  rw [e3]
  exact (h.rows j hjL).2

theorem compare_lays {w : World} {B n c blk : Nat} {gs : List Nat} {L : List T3} (h : OwnT w B (some ⟨blk, 0, none⟩) n c gs L) [Inhabited (RowOf (gs.zip L))] (size : Nat) :
    CmpLays1 Try.prog 149 #[] (encR (gs.zip L)) (cmpR (gs.zip L)) blk 0 size w := by
  intro m os dk _ x y
  have hx := rowOf_at h x
  have hy := rowOf_at h y
  have nx := h.ne hx
  have ny := h.ne hy
  simp only [Value.ownBlock, ne_eq, Option.some.injEq] at nx ny
  have hx' : TripAt (sortWorld (encR (gs.zip L)) w blk 0 m dk os) x.1.1 x.1.2 := (sortW_other _ hx.lt (Ne.symm nx)).trans hx
  have hy' : TripAt (sortWorld (encR (gs.zip L)) w blk 0 m dk os) y.1.1 y.1.2 := (sortW_other _ hy.lt (Ne.symm ny)).trans hy
  have hc := compare_any x.1.1 y.1.1 x.1.2 y.1.2 _ hx' hy'
  rw [Array.append_empty]
  refine hc.mono fun e w' hh => ⟨hh.1, 0, #[], ?_⟩
  rw [grow_empty, ← hh.2]
  rfl

theorem sortFunc_any (A : Option Addr) (n c B : Nat) (gs : List Nat) (L : List T3) (w : World) (h : OwnT w B A n c gs L) (hn : n ≤ 1000000) :
    Calls Try.prog 148 #[.slice A n c, .func (.func 149) #[] #[]] w fun e w' => e = .returned (.tuple #[]) ∧ ∃ gs' L', OwnT w' B A n c gs' L' ∧ L'.Perm L ∧ (∀ i j, i < j → j < L'.length → ¬ lex3 (L'.getD j t0) (L'.getD i t0)) ∧ w.grownBy w' (Value.slice A n c).ownBlock := by
  have hl := h.n
  rcases Nat.eq_zero_or_pos n with h0 | h0
  · subst h0
    have hnone := AnyF.slices_SortFunc_none { Try.sortRR with } A c (.func (.func 149) #[] #[]) w
    change Calls Try.prog 148 _ _ _ at hnone
    refine hnone.mono fun e w' hh => ⟨hh.1, gs, L, ?_⟩
    rw [hh.2]
    exact ⟨h, List.Perm.refl _, fun i j _ hj => by omega, World.grownBy.refl w _⟩
  · obtain ⟨blk, hA, hB, hblk⟩ : ∃ blk, A = some ⟨blk, 0, none⟩ ∧ B ≤ blk ∧ blk < w.heap.size := by
      rcases h.row.2 with ⟨_, e⟩ | ⟨g, cap, cur, e, hb, hh, _⟩
      · omega
      · exact ⟨g, by injection e, hb, (Array.getElem?_eq_some_iff.1 hh).1⟩
    subst hA
    have hz := zip_getD h.len (show 0 < L.length by omega)
    letI : Inhabited (RowOf (gs.zip L)) := ⟨⟨_, List.mem_of_getElem? hz⟩⟩
    have hds : ((gs.zip L).attach.toArray).size = n := by simp [h.len, hl]
    have eg : ∀ args w, (callFunc 149 args).run Try.prog w = .ok (.enter 149 args) w := enters_of Try.func149 (by kernel_rfl) rfl
    have hcon := Any.slices_SortFunc Try.sortRR (encR (gs.zip L)) (fun _ => rfl) (cmpR (gs.zip L)) (swoR _) 149 #[] blk 0 c (gs.zip L).attach.toArray w eg (compare_lays h _) h.holds hblk (by omega)
    change Calls Try.prog 148 _ _ _ at hcon
    rw [hds] at hcon
    refine hcon.mono fun e w' hh => ?_
    obtain ⟨he, d', m, os, hp, hs, hw⟩ := hh
    obtain ⟨gs', L', q1, q2, q3⟩ := h.sorted rfl rfl (by rw [hds]; exact hp) (by rw [hds]; exact hs) hw
    exact ⟨he, gs', L', q1, q2, q3, by rw [hw]; exact sortW_grown _ _ _ _ _ _⟩
end Go.Proofs.Ytcfmnjkgebopcaa
