/- lists, TriAll of the program. -/
import Derived.Test.YtcfmnjkgebopcaaCompare
import Derived.Test.YtcfmnjkgebopcaaInside
import Derived.Sort.OwnSorted
namespace Go.Proofs.Ytcfmnjkgebopcaa
open Go.RowKit Go.Sort

set_option maxRecDepth 100000 in
theorem list_any (a b c : Int) (w : World) :
    Calls Try.prog 147 #[.agg #[.int .i64 a, .int .i64 b, .int .i64 c]] w fun e w' => e = .returned (rowV (w.heap.size + 1)) ∧ TripAt w' (w.heap.size + 1) (a, b, c) ∧ Below w.heap.size w w' := by
  have t1 := TripAt.made (w.alloc (.cells #[.int .i64 a, .int .i64 b, .int .i64 c] 63)) (a, b, c)
  rw [World.size_alloc] at t1
  have HT := Lib.hid t1
  clear t1
  go_enter Try.func147, Try.ntmps147
  go_wp2_with fail
  go_ret
  exact ⟨rfl, HT.out, below_alloc (below_alloc (Below.refl _ _) _) _⟩

/-- What lists's loop keeps: what is listed and what is still to come are what the set holds. -/
def LisR (w : World) (b r : Nat) (L : List T3) (cnt : Nat) (v : Value) (wr : World) : Prop :=
  ∃ S M A c gs, RangeT wr b r L S cnt ∧ v = .slice A M.length c ∧ OwnT wr w.heap.size A M.length c gs M ∧ (S ++ M).Perm L ∧ w.heap.size ≤ r ∧ Below w.heap.size w wr
theorem LisR.erase {S M L : List T3} {t : T3} (h : (S ++ M).Perm L) (ht : t ∈ S) : (S.erase t ++ (M ++ [t])).Perm L := by
  refine List.Perm.trans ?_ h
  have h1 : (t :: S.erase t).Perm S := (List.perm_cons_erase ht).symm
  have h2 : (S.erase t ++ (M ++ [t])).Perm (t :: (S.erase t ++ M)) := by
    rw [← List.append_assoc]
    exact List.perm_append_comm.trans (by simp)
  exact h2.trans (h1.append_right M)
theorem OwnT.ne_iter {w : World} {B n c b r cnt : Nat} {A : Option Addr} {gs : List Nat} {M L S : List T3} (h : OwnT w B A n c gs M) (hr : RangeT w b r L S cnt) : some r ≠ (Value.slice A n c).ownBlock := by
  obtain ⟨D, left, ⟨_, _, _, _, _, _, _, _, _, hit, _⟩, _⟩ := hr
  rcases h.row.2 with ⟨e, _⟩ | ⟨g, cap, cur, e, _, hb, _⟩
  · rw [e]; simp [Value.ownBlock]
  · rw [e]
    intro e1
    obtain rfl : r = g := by simpa [Value.ownBlock] using e1
    rw [hit] at hb
    cases hb
theorem trip_ne_iter {w : World} {g b r cnt : Nat} {t : T3} {L S : List T3} (h : TripAt w g t) (hr : RangeT w b r L S cnt) : g ≠ r := by
  obtain ⟨D, left, ⟨_, _, _, _, _, _, _, _, _, hit, _⟩, _⟩ := hr
  rintro rfl
  unfold TripAt at h
  rw [hit] at h
  cases h
theorem OwnT.other {w w' : World} {B n c r : Nat} {A : Option Addr} {gs : List Nat} {L : List T3} (h : OwnT w B A n c gs L) (hg : w.grownBy w' (some r)) (h1 : some r ≠ (Value.slice A n c).ownBlock) (h2 : ∀ g t, TripAt w g t → g ≠ r) : OwnT w' B A n c gs L :=
  ⟨h.row.kept hg (.inr (Ne.symm h1)), h.len, h.nodup, fun i hi => ⟨(h.rows i hi).1, (h.rows i hi).2.kept hg fun e => h2 _ _ (h.rows i hi).2 (by injection e)⟩⟩

theorem OwnT.fresh {w : World} {B n c g : Nat} {A : Option Addr} {gs : List Nat} {L : List T3} (h : OwnT w B A n c gs L) (hg : w.heap.size ≤ g) : g ∉ gs := by
  intro hm
  obtain ⟨i, hi, e⟩ := List.getElem_of_mem hm
  have := (h.rows i (by rw [← h.len]; exact hi)).2.lt
  rw [show gs.getD i 0 = gs[i] by simp [List.getD_eq_getElem?_getD, hi], e] at this
  omega
theorem LisR.push {w W' : World} {b r cnt2 g c' : Nat} {A' : Option Addr} {gs : List Nat} {S M L : List T3} {t : T3} (hr : RangeT W' b r L (S.erase t) cnt2) (ho : OwnT W' w.heap.size A' (M.length + 1) c' (gs ++ [g]) (M ++ [t]))
    (hp : (S.erase t ++ (M ++ [t])).Perm L) (hrw : w.heap.size ≤ r) (hb : Below w.heap.size w W') : LisR w b r L cnt2 (.slice A' (M.length + 1) c') W' := by
  have e : (M ++ [t]).length = M.length + 1 := by simp
  exact ⟨S.erase t, M ++ [t], A', c', gs ++ [g], hr, by rw [e], by rw [e]; exact ho, hp, hrw, hb⟩
theorem box_cell (w : World) (g : Nat) : (w.alloc (.cells #[rowV g] 23)).cell? ⟨w.heap.size, 0, none⟩ = some (rowV g) := by
  rw [cell_of_row _ _ 0 _ _ _ (World.alloc_heap_new w _)]; rfl

set_option maxRecDepth 100000 in
set_option maxHeartbeats 4000000 in
theorem lists_any (b : Nat) (L : List T3) (w : World) (hs : SetT w b L) (hn : L.length ≤ 100000) :
    Calls Try.prog 128 #[.map (some b)] w fun e w' => ∃ A n c, e = .returned (.slice A n c) ∧ (∃ gs M, OwnT w' w.heap.size A n c gs M ∧ M.Perm L ∧ ∀ i j, i < j → j < M.length → ¬ lex3 (M.getD j t0) (M.getD i t0)) ∧ Below w.heap.size w w' := by
  obtain ⟨i0, hi, hz0, hz1, hz2⟩ := info_parts sliceInfo
  have hl := hs.len
  have hbl := hs.lt
  go_enter Try.func128, Try.ntmps128
  go_wp2_with (first
    | (simp only [hl])
    | (at_make; refine wpList_make_own _ rfl _ _ 40 rfl w.heap.size 23 i0 (.slice none 0 0) 1 Try.underlying40 hi hz0 hz1 _ _ _ L.length rfl rfl rfl (by rw [hz2]; omega) (by unfold maxLen; omega) (Nat.le_refl _) ?_; intro w1 hrow1 hg1)
    | (at_range; refine wp_set_range _ rfl _ rfl b L rfl (hs.kept hg1 (by simp)) ?_; intro w0 hr0 hg0 hs0))
  go_frame
  clear hs0
  go_loopw [3, 4] (fun v _ wr => ∃ cnt, LisR w b w1.heap.size L cnt v wr) (fun _ _ wr => wr.rangeLeft b w1.heap.size)
  case atStart =>
    refine ⟨L.length, L, [], _, L.length, [], hr0, rfl, ⟨hrow1.kept hg0 (.inr (by simp [Value.ownBlock])), rfl, List.nodup_nil, fun i hi => absurd hi (by simp)⟩, by simp, hg1.size, ?_⟩
    exact ((Below.refl _ _).grown hg1 (Nat.le_refl _) (fun j hj => by cases hj)).grown hg0 hg1.size (fun j hj => by cases hj)
  case round =>
    obtain ⟨cnt, S, M, A, c, gs, hrg, rfl, ho, hp, hrw, hb⟩ := hrel
    have hM : M.length ≤ 100000 := by
      have := hp.length_eq
      simp at this
      omega
    go_wp2_with (first | (at_next; refine wp_set_next _ rfl _ rfl b w1.heap.size L S cnt rfl hrg ?_ ?_))
    · intro hS
      subst hS
      have hc := sortFunc_any A M.length c _ gs M wr ho (by omega)
      have HP := Lib.hid hp
      have HO := Lib.hid ho
      have HB := Lib.hid hb
      clear hp ho hb hrg hr0 hrow1 hs
      go_wp2_with fail
      refine hc.mono ?_
      rintro e w' ⟨rfl, gs', M', o', p', s', g'⟩
      go_wp2_with fail
      go_ret
      exact ⟨A, M.length, c, rfl, ⟨gs', M', o', p'.trans (by simpa using HP.out), s'⟩, own_mark HB.out HO.out g'⟩
    · intro x y z cv w2 cnt2 htS htL hwf hrg2 hlt hg2 hs2 hen
      have ho2 := ho.other hg2 (ho.ne_iter hrg) (fun g s hs => trip_ne_iter hs hrg)
      have hb2 := hb.grown hg2 hb.size (fun j hj => by cases hj; exact hrw)
      have HP := Lib.hid (LisR.erase hp htS)
      have HO := Lib.hid ho2
      have HB := Lib.hid hb2
      have HR := Lib.hid hrg2
      have HR0 := Lib.hid hrg
      clear hs2 ho hb hrg hr0 hrow1 hs ho2 hb2 hrg2 hp htS htL hwf hg2
      go_wp2_with fail
      refine (list_any x y z _).mono ?_
      rintro e w3 ⟨rfl, t3, b3⟩
      have q3 := (HO.out.al (.cells #[.int .i64 x, .int .i64 y, .int .i64 z] 63)).same b3
      have r3 := (HR.out.kept (World.grownBy_alloc w2 (.cells #[.int .i64 x, .int .i64 y, .int .i64 z] 63) none) (by simp) (by simp)).kept (grown_of_below b3) (by simp) (by simp)
      have h3 := below_then (below_alloc HB.out (.cells #[.int .i64 x, .int .i64 y, .int .i64 z] 63)) b3
      have hg := HB.out.size
      rw [World.size_alloc] at t3
      have t4 := t3.kept (World.grownBy_alloc w3 (.cells #[rowV (w2.heap.size + 1 + 1)] 23) none) (by simp)
      have q4 := q3.al (.cells #[rowV (w2.heap.size + 1 + 1)] 23)
      have r4 := r3.kept (World.grownBy_alloc w3 (.cells #[rowV (w2.heap.size + 1 + 1)] 23) none) (by simp) (by simp)
      have h4 := below_alloc h3 (.cells #[rowV (w2.heap.size + 1 + 1)] 23)
      have hni := HO.out.fresh (g := w2.heap.size + 1 + 1) (by omega)
      have hbx := box_cell w3 (w2.heap.size + 1 + 1)
      have n4 := q4.ne_iter r4
      have HR4 := Lib.hid r4
      clear r3 r4 h3 q3 t3 HR HO b3
      go_wp2_with (at_builtin; refine wpList_appRow rfl _ _ rfl rfl q4 rfl hbx t4 (by omega) hni (by omega) h4.size ?_; intro A' c' W' o' g')
      have r5 := HR4.out.kept g' (row_ne_low q4.row hbl) n4
      go_roundw
      case rel => exact ⟨cnt2, LisR.push r5 o' HP.out hrw (own_mark h4 q4 g')⟩
      case measure => rw [r5.left_eq, HR0.out.left_eq]; exact hlt

set_option maxRecDepth 100000 in
set_option maxHeartbeats 2000000 in
/-- Of a nil map. -/
theorem lists_nil (w : World) :
    Calls Try.prog 128 #[.map none] w fun e w' => ∃ A n c, e = .returned (.slice A n c) ∧ (∃ gs, OwnT w' w.heap.size A n c gs []) ∧ Below w.heap.size w w' := by
  obtain ⟨i0, hi, hz0, hz1, hz2⟩ := info_parts sliceInfo
  have hl := fun ty W => Maps.len_nil (w := W) Try.underlying72 ty
  go_enter Try.func128, Try.ntmps128
  go_wp2_with (first
    | (simp only [hl])
    | (at_make; refine wpList_make_own _ rfl _ _ 40 rfl w.heap.size 23 i0 (.slice none 0 0) 1 Try.underlying40 hi hz0 hz1 _ _ _ 0 rfl rfl rfl (by omega) (Nat.zero_le _) (Nat.le_refl _) ?_; intro w1 hrow1 hg1
       have hrg := run_range_nilMap (P := Try.prog) w1 72 63 4 Try.underlying72
       have hnx : ∀ ty, (Instr.next (.pointer (some ⟨w1.heap.size, 0, none⟩)) false ty).run Try.prog (w1.alloc (.mapIter none 0 #[] 0)) = .ok (.tuple #[.bool false]) (w1.alloc (.mapIter none 0 #[] 0)) := fun ty => run_next_nilMap _ ty 0 0 #[]))
  refine wp_loop_rounds 1 ?_
  rw [rounds_succ]
  have o1 : OwnT (w1.alloc (.mapIter none 0 #[] 0)) w.heap.size (some ⟨w.heap.size, 0, none⟩) 0 0 [] [] := ⟨hrow1.alloc _, rfl, List.nodup_nil, fun i hi => absurd hi (by simp)⟩
  have b1 : Below w.heap.size w (w1.alloc (.mapIter none 0 #[] 0)) := ((Below.refl _ _).grown hg1 (Nat.le_refl _) (fun j hj => by cases hj)).alloc hg1.size _
  have hc := sortFunc_any _ 0 0 _ [] [] _ o1 (by omega)
  have HO := Lib.hid o1
  clear o1 hrow1
  go_wp2_with fail
  refine hc.mono ?_
  rintro e w' ⟨rfl, gs', M', o', p', s', g'⟩
  obtain rfl : M' = [] := List.Perm.eq_nil p'
  go_wp2_with fail
  go_ret
  exact ⟨_, 0, 0, rfl, ⟨gs', o'⟩, own_mark b1 HO.out g'⟩

theorem implTriAll_any (p : Int) (w : World) : Calls Try.prog 65 #[.int .i64 p] w fun e w' => ∃ A c, e = .returned (.tuple #[.slice A (triAllM p).length c, .bool (inB p 1 60)]) ∧ (∃ gs, OwnT w' w.heap.size A (triAllM p).length c gs (triAllM p)) ∧ Below w.heap.size w w' := by
  by_cases h : inB p 1 60 = true
  · have hp := h
    unfold inB at hp
    simp at hp
    have hO := ofRound_yes p w h
    rw [triAllM_yes h, h]
    have hlen := len_allP hp.1 hp.2
    have h100 := len_inP (n := 60) hp.1 hp.2
    rw [inP_all hp.2] at h100
    go_enter Try.func65, Try.ntmps65
    go_wp2_with fail
    refine hO.mono ?_
    rintro e w2 ⟨b, L, rfl, hb, s2, m2, b2⟩
    have hmem : ∀ t, t ∈ L ↔ t ∈ allP p := fun t => (m2 t).trans (mem_allP hp.2).symm
    have hLl := len_of_mem s2.nodup (nodup_allP p) hmem
    have hls := lists_any b L w2 s2 (by omega)
    have HN := Lib.hid s2.nodup
    have HM := Lib.hid hmem
    clear s2 m2 hmem hO
    go_wp2_with fail
    refine hls.mono ?_
    rintro e w3 ⟨A, n, c, rfl, ⟨gs, M, o3, p3, s3⟩, b3⟩
    have hMM : M = allP p := by
      refine eq_of_sorted (sorted_of (p := p) (n := 60) (fun t ht => (mem_allP hp.2).1 ((HM.out t).1 (p3.mem_iff.1 ht))) (p3.nodup_iff.2 HN.out) s3) (sorted_allP p) fun t => ?_
      rw [p3.mem_iff]; exact HM.out t
    subst hMM
    obtain rfl : (allP p).length = n := o3.n
    have HO := Lib.hid o3
    clear o3 p3 s3 hls
    go_wp2_with fail
    go_ret2
    exact ⟨A, c, rfl, ⟨gs, HO.out.lower b2.size⟩, below_then b2 b3⟩
  · rw [Bool.not_eq_true] at h
    have hO := ofRound_no p w h
    rw [triAllM_no h, h]
    go_enter Try.func65, Try.ntmps65
    go_wp2_with fail
    refine hO.mono ?_
    rintro e w2 ⟨rfl, b2⟩
    have hls := lists_nil w2
    go_wp2_with fail
    refine hls.mono ?_
    rintro e w3 ⟨A, n, c, rfl, ⟨gs, o3⟩, b3⟩
    obtain rfl : 0 = n := o3.n
    have HO := Lib.hid o3
    clear o3 hls
    go_wp2_with fail
    go_ret2
    exact ⟨A, c, rfl, ⟨gs, HO.out.lower b2.size⟩, below_then b2 b3⟩
end Go.Proofs.Ytcfmnjkgebopcaa
