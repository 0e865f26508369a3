/- The laws' helpers over slices of rows of ints: marks. -/
import Derived.Test.YtkjhkcnmhakfcaaRowH
namespace Go.Proofs.Ytkjhkcnmhakfcaa
open Go.RowKit Go.Sort Go.Lib

/-- L with its first k rows marked from q on. -/
def mkRow (q : Int) (L : List (List Int)) (i : Nat) : List Int := marks (q + lenTo L i) (rowL L i).length
def mkM (q : Int) (L : List (List Int)) (k : Nat) : List (List Int) := (List.range k).map (mkRow q L) ++ L.drop k
theorem marks_len (q : Int) (n : Nat) : (marks q n).length = n := by simp [marks]
theorem len_mkM (q : Int) {L : List (List Int)} {k : Nat} (h : k ≤ L.length) : (mkM q L k).length = L.length := by simp [mkM]; omega
theorem mkM_zero (q : Int) (L : List (List Int)) : mkM q L 0 = L := by simp [mkM]
theorem mkM_at {q : Int} {L : List (List Int)} {k i : Nat} (_hk : k ≤ L.length) (_hi : i < L.length) : rowL (mkM q L k) i = if i < k then mkRow q L i else rowL L i := by
  unfold mkM rowL
  by_cases h : i < k
  · rw [if_pos h, List.getD_eq_getElem?_getD, List.getElem?_append_left (by simpa using h)]
    simp [h]
  · rw [if_neg h, List.getD_eq_getElem?_getD, List.getElem?_append_right (by simp; omega)]
    simp only [List.length_map, List.length_range, List.getElem?_drop]
    rw [show k + (i - k) = i by omega, List.getD_eq_getElem?_getD]
theorem mkM_row_len {q : Int} {L : List (List Int)} {k i : Nat} (hk : k ≤ L.length) (hi : i < L.length) : (rowL (mkM q L k) i).length = (rowL L i).length := by
  rw [mkM_at hk hi]
  split
  · unfold mkRow; rw [marks_len]
  · rfl
theorem zip_row_eq {gs : List Nat} {L M : List (List Int)} (hl : L.length = M.length) (h : ∀ i, i < L.length → (rowL L i).length = (rowL M i).length) : (gs.zip L).map (fun p => rowW p.1 p.2) = (gs.zip M).map fun p => rowW p.1 p.2 := by
  apply List.ext_getElem
  · simp [hl]
  · intro i h1 h2
    simp only [List.length_map, List.length_zip] at h1 h2
    have h3 := h i (by omega)
    simp only [rowL, List.getD_eq_getElem?_getD, List.getElem?_eq_getElem (show i < L.length by omega), List.getElem?_eq_getElem (show i < M.length by omega), Option.getD_some] at h3
    simp [rowW, h3]

/-- One row marked. -/
theorem OwnM.marked {w w' : World} {B n c : Nat} {A : Option Addr} {gs : List Nat} {L : List (List Int)} {q : Int} {k : Nat} (h : OwnM w B A n c gs (mkM q L k)) (hk : k < L.length) (hs : (rowL L k).length ≤ 16777216)
    (ho : Own w' B (some ⟨gs.getD k 0, 0, none⟩) (rowL L k).length (rowL L k).length (mkRow q L k)) (hg : w.grownBy w' (some (gs.getD k 0))) : OwnM w' B A n c gs (mkM q L (k + 1)) := by
  have hlen := len_mkM q (L := L) (k := k) (by omega)
  have hlen' := len_mkM q (L := L) (k := k + 1) (by omega)
  have hgl : gs.length = L.length := by rw [h.len, hlen]
  have hrow := h.row.kept hg (.inr (h.ne (h.rows k (by omega)).2))
  rw [zip_row_eq (M := mkM q L (k + 1)) (by omega) (fun i hi => by rw [mkM_row_len (by omega) (by omega), mkM_row_len (by omega) (by omega)])] at hrow
  refine ⟨hrow, by rw [hlen', hgl], h.nodup, fun i hi => ?_⟩
  rw [hlen'] at hi
  rw [mkM_at (by omega) hi]
  have hr := h.rows i (by omega)
  rw [mkM_at (by omega) hi] at hr
  refine ⟨hr.1, ?_⟩
  by_cases e : i = k
  · subst e
    rw [if_pos (by omega)]
    exact RowBlk.of_own ho hs
  · have hne : gs.getD i 0 ≠ gs.getD k 0 := by
      have hi' : i < gs.length := by omega
      have hk' : k < gs.length := by omega
      have e1 : gs.getD i 0 = gs[i] := by simp [List.getD_eq_getElem?_getD, hi']
      have e2 : gs.getD k 0 = gs[k] := by simp [List.getD_eq_getElem?_getD, hk']
      rw [e1, e2]
      intro e3
      exact e ((List.getElem_inj h.nodup).1 e3)
    have hk2 := hr.2.kept hg (fun e4 => hne (by injection e4))
    by_cases h5 : i < k
    · rw [if_pos (by omega)]; rwa [if_pos h5] at hk2
    · rw [if_neg (by omega)]; rwa [if_neg h5] at hk2

/-- Of the blocks that were there, only some have turned. -/
structure Turned (gs : List Nat) (w w' : World) : Prop where
  os : w'.os = w.os
  tape : w'.tape = w.tape
  output : w'.output = w.output
  size : w.heap.size ≤ w'.heap.size
  block : ∀ k, k < w.heap.size → k ∉ gs → w'.heap[k]? = w.heap[k]?
theorem Turned.refl (gs : List Nat) (w : World) : Turned gs w w := ⟨rfl, rfl, rfl, Nat.le_refl _, fun _ _ _ => rfl⟩
theorem Turned.grown {gs : List Nat} {a w w' : World} {g : Nat} (h : Turned gs a w) (hg : w.grownBy w' (some g)) (hm : g ∈ gs) : Turned gs a w' :=
  ⟨hg.os.trans h.os, hg.tape.trans h.tape, hg.output.trans h.output, Nat.le_trans h.size hg.size, fun k hk hn => (hg.block k (Nat.lt_of_lt_of_le hk h.size) (fun e => hn (by cases e; exact hm))).trans (h.block k hk hn)⟩
theorem Turned.below {gs : List Nat} {w w' : World} {B : Nat} (h : Turned gs w w') (hB : B ≤ w.heap.size) (hg : ∀ g ∈ gs, B ≤ g) : Below B w w' :=
  ⟨h.os, h.tape, h.output, h.size, fun k hk => h.block k (by omega) (fun hm => by have := hg k hm; omega)⟩
theorem OwnM.mem {w : World} {B n c : Nat} {A : Option Addr} {gs : List Nat} {L : List (List Int)} (h : OwnM w B A n c gs L) {g : Nat} (hm : g ∈ gs) : B ≤ g ∧ g < w.heap.size := by
  obtain ⟨i, hi, e⟩ := List.getElem_of_mem hm
  have hi' : i < L.length := by rw [← h.len]; exact hi
  have e2 : gs.getD i 0 = g := by simp [List.getD_eq_getElem?_getD, hi, e]
  rw [← e2]
  exact ⟨(h.rows i hi').1, (h.rows i hi').2.lt⟩
/-- What turns blocks below B alone turns nothing of what lies from B on. -/
theorem OwnM.apart {w w' : World} {B n c : Nat} {A : Option Addr} {gs ks : List Nat} {L : List (List Int)} (h : OwnM w B A n c gs L) (ht : Turned ks w w') (hk : ∀ k ∈ ks, k < B) : OwnM w' B A n c gs L := by
  have keep : ∀ k, B ≤ k → k < w.heap.size → w'.heap[k]? = w.heap[k]? := fun k h1 h2 => ht.block k h2 (fun hm => by have := hk k hm; omega)
  refine ⟨⟨h.row.1, ?_⟩, h.len, h.nodup, fun i hi => ?_⟩
  · rcases h.row.2 with e | ⟨g, cap, cur, e, hb, hh, r⟩
    · exact .inl e
    · exact .inr ⟨g, cap, cur, e, hb, (keep g hb (Array.getElem?_eq_some_iff.1 hh).1).trans hh, r⟩
  · obtain ⟨h1, h2⟩ := h.rows i hi
    exact ⟨h1, (keep _ h1 h2.lt).trans h2.1, h2.2⟩

set_option maxRecDepth 100000 in
set_option maxHeartbeats 2000000 in
theorem markIntSS_any (A : Option Addr) (n c B : Nat) (gs : List Nat) (L : List (List Int)) (q : Int) (w : World) (h : OwnM w B A n c gs L) (hs : SmallM L) (hq0 : 0 ≤ q) (hq1 : q ≤ 1048576) :
    Calls Try.prog 31 #[.slice A n c, .int .i64 q] w fun e w' => e = .returned (.int .i64 (q + lenTo L n)) ∧ OwnM w' B A n c gs (mkM q L n) ∧ Turned gs w w' := by
  have hl := h.n
  have hn : n ≤ 1048576 := by rw [← hl]; exact hs.len
  have HS := Lib.hid hs
  have hT : lenTo L n ≤ 1048576 := by rw [← hl]; unfold SmallM at hs; omega
  go_enter Try.func31, Try.ntmps31
  go_wp2_with fail
  go_loopw [1, 5] (fun v i wr => ∃ k : Nat, k ≤ n ∧ i = .int .i64 k ∧ v = .int .i64 (q + lenTo L k) ∧ OwnM wr B A n c gs (mkM q L k) ∧ Turned gs w wr) (fun _ i _ => n - (intOf i).toNat)
  case atStart => exact ⟨0, Nat.zero_le _, rfl, by simp [lenTo], by rw [mkM_zero]; exact h, Turned.refl _ _⟩
  case round =>
    obtain ⟨k, hk, rfl, rfl, ho, hb⟩ := hrel
    by_cases hlt : k < n
    · have hlen := len_mkM q (L := L) (k := k) (by omega)
      obtain ⟨g, rfl, _, _, hcx⟩ := ho.at_ hlt
      have hr := ho.rows k (by omega)
      have e0 : rowL (mkM q L k) k = rowL L k := by rw [mkM_at (by omega) (by omega), if_neg (by omega)]
      rw [e0] at hr hcx
      have hm := HS.out.row (i := k) (by omega)
      have hlk : lenTo L k ≤ 1048576 := by have := lenTo_mono (L := L) (i := k) (j := n) (by omega) (by omega); omega
      have hM := markIntS_any _ (rowL L k).length (rowL L k).length B _ (q + lenTo L k) wr (hr.2.own hr.1) hm (by omega) (by omega)
      have HK := Lib.hid (lenTo_succ (L := L) (i := k) (by omega))
      obtain ⟨P, eP⟩ : ∃ P : World → Prop, P = fun w2 => OwnM w2 B (some ⟨g, 0, none⟩) n c gs (mkM q L (k + 1)) ∧ Turned gs w w2 := ⟨_, rfl⟩
      have hM2 : Calls Try.prog 81 #[.slice (some ⟨gs.getD k 0, 0, none⟩) (rowL L k).length (rowL L k).length, .int .i64 (q + lenTo L k)] wr fun e w2 => e = .returned (.int .i64 (q + lenTo L k + (rowL L k).length)) ∧ P w2 :=
        hM.mono fun e w2 ⟨he, o2, g2⟩ => ⟨he, by
          rw [eP]
          exact ⟨ho.marked (by omega) (by omega) o2 g2, hb.grown g2 (by
            have hkg : k < gs.length := by have := ho.len; omega
            simp [List.getD_eq_getElem?_getD, hkg])⟩⟩
      have EP := Lib.hid eP
      replace hcx : wr.cell? ⟨g, k, none⟩ = some (.slice (some ⟨gs.getD k 0, 0, none⟩) (rowL L k).length (rowL L k).length) := hcx
      generalize gs.getD k 0 = g1 at *
      generalize (rowL L k).length = m at *
      generalize lenTo L k = z at *
      clear ho hb hr h hM e0 hlen hm hs eP
      go_wp2_with fail
      refine hM2.mono ?_
      rintro e w2 ⟨rfl, h2⟩
      have H2 := Lib.hid h2
      clear h2 hM2 hcx
      go_wp2_with fail
      go_roundw
      case rel => exact ⟨k + 1, by omega, by go_num, by have := HK.out; congr 1; rw [this]; push_cast; omega, by have := H2.out; rw [EP.out] at this; exact this⟩
      case measure => simp [intOf]; omega
    · go_wp2_with fail
      go_ret
      obtain rfl : k = n := by omega
      exact ⟨rfl, ho, hb⟩

set_option maxRecDepth 100000 in
set_option maxHeartbeats 2000000 in
theorem heldIntSS_any (A : Option Addr) (n c : Nat) (L : List (List Int)) (q : Int) (w : World) (h : RdM w A n (mkM q L n)) (hl : L.length = n) (hs : SmallM L) (hq0 : 0 ≤ q) (hq1 : q ≤ 1048576) :
    Calls Try.prog 32 #[.slice A n c, .int .i64 q] w fun e w' => e = .returned (.int .i64 (q + lenTo L n)) ∧ Below w.heap.size w w' := by
  have hn : n ≤ 1048576 := by rw [← hl]; exact hs.len
  have HS := Lib.hid hs
  have hT : lenTo L n ≤ 1048576 := by rw [← hl]; unfold SmallM at hs; omega
  go_enter Try.func32, Try.ntmps32
  go_wp2_with fail
  go_loopw [1, 5] (fun v i wr => ∃ k : Nat, k ≤ n ∧ i = .int .i64 k ∧ v = .int .i64 (q + lenTo L k) ∧ Below w.heap.size w wr) (fun _ i _ => n - (intOf i).toNat)
  case atStart => exact ⟨0, Nat.zero_le _, rfl, by simp [lenTo], Below.refl _ _⟩
  case round =>
    obtain ⟨k, hk, rfl, rfl, hb⟩ := hrel
    by_cases hlt : k < n
    · obtain ⟨b, off, rfl, hbl, hc⟩ := h.2 (by omega)
      obtain ⟨A1, c1, x1, r1⟩ := hc k hlt
      rw [mkM_at (by omega) (by omega), if_pos hlt] at x1 r1
      unfold mkRow at x1 r1
      rw [marks_len] at x1 r1
      have hm := HS.out.row (i := k) (by omega)
      have hlk : lenTo L k ≤ 1048576 := by have := lenTo_mono (L := L) (i := k) (j := n) (by omega) (by omega); omega
      have HK := Lib.hid (lenTo_succ (L := L) (i := k) (by omega))
      have hcx : wr.cell? ⟨b, off + k, none⟩ = some (.slice A1 (rowL L k).length c1) := (hb.cell (p := ⟨b, off + k, none⟩) hbl).trans x1
      have hH := heldIntS_any A1 (rowL L k).length c1 (q + lenTo L k) wr (r1.same hb) hm (by omega) (by omega)
      generalize (rowL L k).length = m at *
      generalize lenTo L k = z at *
      have hneg : decide (q + (z : Int) + (m : Int) < 0) = false := by simp; omega
      have HB := Lib.hid hb
      clear hc h hb r1 x1 hs
      go_wp2_with fail
      refine hH.mono ?_
      rintro e w2 ⟨rfl, b2⟩
      have b3 := below_then HB.out b2
      clear hH hcx
      go_wp2_with fail
      go_roundw
      case rel => exact ⟨k + 1, by omega, by go_num, by have := HK.out; congr 1; rw [this]; push_cast; omega, b3⟩
      case measure => simp [intOf]; omega
    · go_wp2_with fail
      go_ret
      obtain rfl : k = n := by omega
      exact ⟨rfl, hb⟩
end Go.Proofs.Ytkjhkcnmhakfcaa
