/- The laws' helpers over slices of rows of three: comparisons, marks. -/
import Derived.Test.YtcfmnjkgebopcaaTriRows
import Derived.Test.YtcfmnjkgebopcaaLaw1b
namespace Go.Proofs.Ytcfmnjkgebopcaa
open Go.RowKit Go.Sort

set_option maxRecDepth 100000 in
set_option maxHeartbeats 2000000 in
theorem eqIntSS_same (A A' : Option Addr) (n c c' : Nat) (L : List T3) (w : World) (h : RdT w A n L) (h' : RdT w A' n L) (hn : n ≤ 1048576) :
    Calls Try.prog 97 #[.slice A n c, .slice A' n c'] w fun e w' => e = .returned (.bool true) ∧ Below w.heap.size w w' := by
  have hm : (((n : Int)) != (n : Int)) = false := by simp
  go_enter Try.func97, Try.ntmps97
  go_wp2_with fail
  go_loopw [5] (fun i wr => ∃ k : Nat, k ≤ n ∧ i = .int .i64 k ∧ Below w.heap.size w wr) (fun i _ => n - (intOf i).toNat)
  case atStart => exact ⟨0, Nat.zero_le _, rfl, Below.refl _ _⟩
  case round =>
    obtain ⟨k, hk, rfl, hb⟩ := hrel
    by_cases hlt : k < n
    · obtain ⟨b, off, rfl, hbl, hc⟩ := h.2 (by omega)
      obtain ⟨b', off', rfl, hbl', hc'⟩ := h'.2 (by omega)
      obtain ⟨A1, c1, x1, r1⟩ := hc k hlt
      obtain ⟨A2, c2, x2, r2⟩ := hc' k hlt
      have y1 : ∀ d os, (grow (redrawn wr d) os).cell? ⟨b, off + k, none⟩ = some (.slice A1 3 c1) := fun d os => cell_regrown ((hb.cell (p := ⟨b, off + k, none⟩) hbl).trans x1) d os
      have y2 : ∀ d os, (grow (redrawn wr d) os).cell? ⟨b', off' + k, none⟩ = some (.slice A2 3 c2) := fun d os => cell_regrown ((hb.cell (p := ⟨b', off' + k, none⟩) hbl').trans x2) d os
      have cE : ∀ d os, Calls Try.prog 96 #[.slice A1 3 c1, .slice A2 3 c2] (grow (redrawn wr d) os) fun e w'' => e = .returned (.bool true) ∧ ∃ p : Regrown, w'' = grow (redrawn wr p.d) p.os := fun d os =>
        Calls.regrown_of (eqIntS_same A1 A2 3 c1 3 c2 _ _ ((r1.same hb).same (below_regrown wr d os)) ((r2.same hb).same (below_regrown wr d os)) (by omega) (by omega))
      have g1 : (k : Int) < (n : Int) := by omega
      have g2 : (0 : Int) ≤ (k : Int) := by omega
      have g3 : ((k : Int)).toNat = k := by omega
      have HB := Lib.hid hb
      clear x1 x2 r1 r2 hc hc' h h' hb
      go_wp2_with fail
      refine wp_region_quiet_below (by kernel_rfl) (by kernel_rfl) ?_
      repeat (go_big_quiet_step (with_reducible exact cE _ _))
      refine wpQuiet_nil ?_
      intro _ hw'
      obtain ⟨⟨dq, osq⟩, hw''⟩ := hw'
      subst hw''
      have bq := below_regrown wr dq osq
      generalize Go.Sort.grow (redrawn wr dq) osq = wq at bq ⊢
      go_wp2_with fail
      go_roundw
      case rel => exact ⟨k + 1, by omega, by go_num, HB.out.trans (bq.mono HB.out.size)⟩
      case measure => simp [intOf]; omega
    · go_wp2_with fail
      go_ret
      exact ⟨rfl, hb⟩

/-- L with its first k rows marked from q on. -/
def mk3 (q : Int) (i : Nat) : T3 := (q + 3 * i, q + 3 * i + 1, q + 3 * i + 2)
def mkL (q : Int) (L : List T3) (k : Nat) : List T3 := (List.range k).map (mk3 q) ++ L.drop k
theorem len_mkL (q : Int) {L : List T3} {k : Nat} (h : k ≤ L.length) : (mkL q L k).length = L.length := by simp [mkL]; omega
theorem mkL_zero (q : Int) (L : List T3) : mkL q L 0 = L := by simp [mkL]
theorem mkL_at {q : Int} {L : List T3} {k i : Nat} (_hk : k ≤ L.length) (_hi : i < L.length) : (mkL q L k).getD i t0 = if i < k then mk3 q i else L.getD i t0 := by
  unfold mkL
  by_cases h : i < k
  · rw [if_pos h, List.getD_eq_getElem?_getD, List.getElem?_append_left (by simpa using h)]
    simp [h]
  · rw [if_neg h, List.getD_eq_getElem?_getD, List.getElem?_append_right (by simp; omega)]
    simp only [List.length_map, List.length_range, List.getElem?_drop]
    rw [show k + (i - k) = i by omega, List.getD_eq_getElem?_getD]
theorem marks3 (q : Int) : marks q 3 = trip (q, q + 1, q + 2) := by simp [marks, trip, List.range, List.range.loop]
theorem own_trip {w : World} {B g : Nat} {t : T3} (h : Own w B (some ⟨g, 0, none⟩) 3 3 (trip t)) : TripAt w g t := by
  rcases h.2 with ⟨e, _⟩ | ⟨g', cap, cur, e, hb, hh, h1, h2, h3, h4⟩
  · cases e
  · simp only [Value.slice.injEq, Option.some.injEq, Addr.mk.injEq, and_true, true_and] at e
    obtain ⟨rfl, rfl⟩ := e
    have e3 : cur.toList = ints (trip t) := by
      rw [← h4, List.take_of_length_le (by rw [Array.length_toList, h3]; omega)]
    have e4 : cur = (ints (trip t)).toArray := by rw [← e3]
    rw [e4] at hh
    exact hh

/-- One row marked. -/
theorem OwnT.marked {w w' : World} {B n c : Nat} {A : Option Addr} {gs : List Nat} {L : List T3} {q : Int} {k : Nat} (h : OwnT w B A n c gs (mkL q L k)) (hk : k < L.length) (hl : L.length = n)
    (ho : Own w' B (some ⟨gs.getD k 0, 0, none⟩) 3 3 (marks (q + 3 * k) 3)) (hg : w.grownBy w' (some (gs.getD k 0))) : OwnT w' B A n c gs (mkL q L (k + 1)) := by
  have hlen := len_mkL q (L := L) (k := k) (by omega)
  have hlen' := len_mkL q (L := L) (k := k + 1) (by omega)
  have hgl : gs.length = L.length := by rw [h.len, hlen]
  refine ⟨h.row.kept hg (.inr (h.ne (h.rows k (by omega)).2)), by rw [hlen', hgl], h.nodup, fun i hi => ?_⟩
  rw [hlen'] at hi
  rw [mkL_at (by omega) hi]
  have hr := h.rows i (by omega)
  rw [mkL_at (by omega) hi] at hr
  refine ⟨hr.1, ?_⟩
  by_cases e : i = k
  · subst e
    rw [if_pos (by omega)]
    rw [marks3] at ho
    exact own_trip ho
  · have hne : gs.getD i 0 ≠ gs.getD k 0 := by
      have hi' : i < gs.length := by omega
      have hk' : k < gs.length := by omega
      have e1 : gs.getD i 0 = gs[i] := by simp [List.getD_eq_getElem?_getD, hi']
      have e2 : gs.getD k 0 = gs[k] := by simp [List.getD_eq_getElem?_getD, hk']
      rw [e1, e2]
      intro e3
      exact e ((List.getElem_inj h.nodup).1 e3)
    have hk2 := hr.2.kept hg (fun e4 => hne (by injection e4))
    by_cases h5 : i < k
    · rw [if_pos (by omega)]; rwa [if_pos h5] at hk2
    · rw [if_neg (by omega)]; rwa [if_neg h5] at hk2

set_option maxRecDepth 100000 in
set_option maxHeartbeats 2000000 in
theorem markIntSS_any (A : Option Addr) (n c B : Nat) (gs : List Nat) (L : List T3) (q : Int) (w : World) (h : OwnT w B A n c gs L) (hn : n ≤ 1048576) (hq0 : 0 ≤ q) (hq1 : q ≤ 1048576) :
    Calls Try.prog 98 #[.slice A n c, .int .i64 q] w fun e w' => e = .returned (.int .i64 (q + 3 * n)) ∧ OwnT w' B A n c gs (mkL q L n) ∧ (B ≤ w.heap.size → Below B w w') := by
  have hl := h.n
  go_enter Try.func98, Try.ntmps98
  go_wp2_with fail
  go_loopw [1, 5] (fun v i wr => ∃ k : Nat, k ≤ n ∧ i = .int .i64 k ∧ v = .int .i64 (q + 3 * k) ∧ OwnT wr B A n c gs (mkL q L k) ∧ (B ≤ w.heap.size → Below B w wr)) (fun _ i _ => n - (intOf i).toNat)
  case atStart => exact ⟨0, Nat.zero_le _, rfl, by simp, by rw [mkL_zero]; exact h, fun _ => Below.refl _ _⟩
  case round =>
    obtain ⟨k, hk, rfl, rfl, ho, hb⟩ := hrel
    by_cases hlt : k < n
    · have hlen := len_mkL q (L := L) (k := k) (by omega)
      obtain ⟨g, hA, _, _⟩ : ∃ g, A = some ⟨g, 0, none⟩ ∧ B ≤ g ∧ g < wr.heap.size := by
        rcases ho.row.2 with ⟨_, e⟩ | ⟨g, cap, cur, e, hb, hh, _⟩
        · omega
        · exact ⟨g, by injection e, hb, (Array.getElem?_eq_some_iff.1 hh).1⟩
      subst hA
      have hcx : wr.cell? ⟨g, k, none⟩ = some (rowV (gs.getD k 0)) := by
        rw [World.ownsRow.cellAt ho.row k (by omega), map_getD_rowV (by rw [ho.len, hlen]; omega)]
      have hr := ho.rows k (by omega)
      have hM := markIntS_any _ 3 3 B _ (q + 3 * (k : Int)) wr (hr.2.own hr.1) (by omega) (by omega) (by omega)
      have HO := Lib.hid ho
      have HB := Lib.hid hb
      have HG := Lib.hid hr.1
      clear ho hb hr h
      go_wp2_with fail
      refine hM.mono ?_
      rintro e w2 ⟨rfl, o2, g2⟩
      have h2 := HO.out.marked (by omega) hl o2 g2
      have hb2 : B ≤ w.heap.size → Below B w w2 := fun hB => (HB.out hB).grown g2 (Nat.le_trans hB (HB.out hB).size) (fun j hj => by simp [Value.ownBlock] at hj; subst hj; exact HG.out)
      have H2 := Lib.hid h2
      have HB2 := Lib.hid hb2
      clear h2 hb2 o2 g2 hM hcx
      go_wp2_with fail
      go_roundw
      case rel => exact ⟨k + 1, by omega, by go_num, by go_num, H2.out, HB2.out⟩
      case measure => simp [intOf]; omega
    · go_wp2_with fail
      go_ret
      obtain rfl : k = n := by omega
      exact ⟨rfl, ho, hb⟩

set_option maxRecDepth 100000 in
set_option maxHeartbeats 2000000 in
theorem heldIntSS_any (A : Option Addr) (n c : Nat) (L : List T3) (q : Int) (w : World) (h : RdT w A n (mkL q L n)) (hl : L.length = n) (hn : n ≤ 1048576) (hq0 : 0 ≤ q) (hq1 : q ≤ 1048576) :
    Calls Try.prog 99 #[.slice A n c, .int .i64 q] w fun e w' => e = .returned (.int .i64 (q + 3 * n)) ∧ Below w.heap.size w w' := by
  go_enter Try.func99, Try.ntmps99
  go_wp2_with fail
  go_loopw [1, 5] (fun v i wr => ∃ k : Nat, k ≤ n ∧ i = .int .i64 k ∧ v = .int .i64 (q + 3 * k) ∧ Below w.heap.size w wr) (fun _ i _ => n - (intOf i).toNat)
  case atStart => exact ⟨0, Nat.zero_le _, rfl, by simp, Below.refl _ _⟩
  case round =>
    obtain ⟨k, hk, rfl, rfl, hb⟩ := hrel
    by_cases hlt : k < n
    · obtain ⟨b, off, rfl, hbl, hc⟩ := h.2 (by omega)
      obtain ⟨A1, c1, x1, r1⟩ := hc k hlt
      rw [mkL_at (by omega) (by omega), if_pos hlt] at r1
      have r2 : Rd wr A1 3 (marks (q + 3 * (k : Int)) 3) := by rw [marks3]; exact r1.same hb
      have hcx : wr.cell? ⟨b, off + k, none⟩ = some (.slice A1 3 c1) := (hb.cell (p := ⟨b, off + k, none⟩) hbl).trans x1
      have hH := heldIntS_any A1 3 c1 (q + 3 * (k : Int)) wr r2 (by omega) (by omega) (by omega)
      have hneg : decide (q + 3 * (k : Int) + 3 < 0) = false := by simp; omega
      have HB := Lib.hid hb
      clear hc h hb r1 r2 x1
      go_wp2_with fail
      refine hH.mono ?_
      rintro e w2 ⟨rfl, b2⟩
      have b3 := below_then HB.out b2
      clear hH hcx
      go_wp2_with fail
      go_roundw
      case rel => exact ⟨k + 1, by omega, by go_num, by go_num, b3⟩
      case measure => simp [intOf]; omega
    · go_wp2_with fail
      go_ret
      obtain rfl : k = n := by omega
      exact ⟨rfl, hb⟩
end Go.Proofs.Ytcfmnjkgebopcaa
