/- fill, ofRound, TriCount, TriInside of the program: sets of the triangles of a round. -/
import Derived.Test.YtliplbifgldjeaaOrd
namespace Go.Proofs.Ytliplbifgldjeaa
open Go.RowKit

/-- What fill's loops keep: all triangles are there whose first length is less than i, or is i with a second one less than j. -/
def FillR (w : World) (b : Nat) (p n : Int) (i j : Nat) (wr : World) : Prop :=
  ∃ L, SetT wr b L ∧ L.length ≤ 100 * i + j ∧ (∀ t ∈ L, Good p n t) ∧ (∀ t, Good p n t → (t.1 < i ∨ t.1 = i ∧ t.2.1 < j) → t ∈ L) ∧ w.grownBy wr (some b)
theorem FillR.start {w w1 : World} {b : Nat} {p n : Int} (h : SetT w1 b []) (hg : w.grownBy w1 (some b)) : FillR w b p n 1 1 w1 :=
  ⟨[], h, by simp, by simp, fun t ht hh => by unfold Good at ht; omega, hg⟩
theorem grown_below {w wr w' : World} {b : Nat} (hg : w.grownBy wr (some b)) (hb : Below wr.heap.size wr w') : w.grownBy w' (some b) :=
  hg.andThen (grown_of_below hb) (fun j e => by cases e)
theorem FillR.same {w wr w' : World} {b : Nat} {p n : Int} {i j : Nat} (h : FillR w b p n i j wr) (hb : Below wr.heap.size wr w') : FillR w b p n i j w' := by
  obtain ⟨L, h1, h2, h3, h4, h5⟩ := h
  exact ⟨L, h1.same hb, h2, h3, h4, grown_below h5 hb⟩
theorem FillR.skip {w wr : World} {b : Nat} {p n : Int} {i j : Nat} (h : FillR w b p n i j wr) (hno : ¬ (p - i - j ≤ n ∧ sidesB i j (p - i - j) = true)) (hn : n ≤ 60) : FillR w b p n i (j + 1) wr := by
  obtain ⟨L, h1, h2, h3, h4, h5⟩ := h
  refine ⟨L, h1, by omega, h3, fun t ht hh => ?_, h5⟩
  by_cases e : t.1 = i ∧ t.2.1 = j
  · refine absurd ?_ hno
    unfold Good at ht
    unfold sidesB inB triB
    simp
    omega
  · exact h4 t ht (by omega)
theorem FillR.add {w wr : World} {b : Nat} {p n : Int} {i j : Nat} (h : FillR w b p n i j wr) (hi : 1 ≤ i) (hi' : (i : Int) ≤ n) (hn : n ≤ 60) (hj : 1 ≤ j) (hj' : (j : Int) ≤ n) (hc : p - i - j ≤ n) (hs : sidesB i j (p - i - j) = true) :
    ∃ L, SetT wr b L ∧ L.length < maxLen ∧ wf3 (ord3 i j (p - i - j)) ∧ ∀ w', SetT w' b (addT L (ord3 i j (p - i - j))) → wr.grownBy w' (some b) → FillR w b p n i (j + 1) w' := by
  obtain ⟨L, h1, h2, h3, h4, h5⟩ := h
  have hg : Good p n (ord3 i j (p - i - j)) := by
    have := ord3_good (a := i) (b := j) (c := p - i - j) (n := n)
    unfold sidesB inB triB at hs
    simp at hs
    rw [show (i : Int) + j + (p - i - j) = p by omega] at this
    exact this (by omega) (by omega) (by omega) hi' hj' hc (by omega) (by omega) (by omega)
  have hb := hg
  unfold Good at hb
  refine ⟨L, h1, by unfold maxLen; omega, ⟨WalkArith.wf_i64 (by omega), WalkArith.wf_i64 (by omega), WalkArith.wf_i64 (by omega)⟩, fun w' hs' hg' => ⟨_, hs', ?_, fun t ht => ?_, fun t ht hh => ?_, grown_trans_row h5 hg'⟩⟩
  · have := (len_addT L (ord3 i j (p - i - j))).2
    omega
  · rcases mem_addT.1 ht with ht | rfl
    · exact h3 t ht
    · exact hg
  · by_cases e : t.1 = i ∧ t.2.1 = j
    · refine mem_addT.2 (.inr ?_)
      obtain ⟨x, y, z⟩ := t
      obtain ⟨e1, e2⟩ := e
      unfold Good at ht
      dsimp only at e1 e2 ht
      subst e1 e2
      rw [show p - (i : Int) - (j : Int) = z by omega, ord3_asc (by omega) (by omega)]
    · exact mem_addT.2 (.inl (h4 t ht (by omega)))
theorem FillR.next {w wr : World} {b : Nat} {p n : Int} {i j : Nat} (h : FillR w b p n i j wr) (hj : n < j) (hj2 : j ≤ 99) : FillR w b p n (i + 1) 1 wr := by
  obtain ⟨L, h1, h2, h3, h4, h5⟩ := h
  refine ⟨L, h1, by omega, h3, fun t ht hh => h4 t ht ?_, h5⟩
  have := ht
  unfold Good at this
  omega
theorem FillR.done {w wr : World} {b : Nat} {p n : Int} {i j : Nat} (h : FillR w b p n i j wr) (hi : n < i) : ∃ L, SetT wr b L ∧ (∀ t, t ∈ L ↔ Good p n t) ∧ w.grownBy wr (some b) := by
  obtain ⟨L, h1, h2, h3, h4, h5⟩ := h
  refine ⟨L, h1, fun t => ⟨h3 t, fun ht => h4 t ht ?_⟩, h5⟩
  unfold Good at ht
  omega

set_option maxRecDepth 100000 in
set_option maxHeartbeats 4000000 in
theorem fill_any (b : Nat) (L0 : List T3) (p n : Int) (w : World) (h : SetT w b L0) (hp0 : 0 ≤ p) (hp : p ≤ 60) (hn0 : 0 ≤ n) (hn : n ≤ 60) :
    Calls Try.prog 91 #[.map (some b), .int .i64 p, .int .i64 n] w fun e w' => e = .returned (.tuple #[]) ∧ ∃ L, SetT w' b L ∧ (∀ t, t ∈ L ↔ Good p n t) ∧ w.grownBy w' (some b) := by
  obtain ⟨w1, hcl, hs1, hg1⟩ := h.clear
  have HF := Lib.hid (FillR.start (p := p) (n := n) hs1 hg1)
  clear hs1 hg1 h
  go_enter Try.func91, Try.ntmps91
  go_wp2_with (simp only [hcl])
  go_loopw [6, 7, 8] (fun a _ _ wr => ∃ i : Nat, 1 ≤ i ∧ (i : Int) ≤ n + 1 ∧ a = .int .i64 i ∧ FillR w b p n i 1 wr) (fun a _ _ _ => (n + 1 - intOf a).toNat)
  case atStart => exact ⟨1, Nat.le_refl _, by omega, rfl, HF.out⟩
  case round =>
    obtain ⟨i, hi1, hin, rfl, hf⟩ := hrel
    have HFi := Lib.hid hf
    clear hf HF hcl
    by_cases hlt : (i : Int) ≤ n
    · have hd : decide ((i : Int) ≤ n) = true := by simpa using hlt
      obtain ⟨wo, rfl⟩ : ∃ wo : World, wo = wr := ⟨_, rfl⟩
      go_wp2_with fail
      go_loopw [7, 8] (fun a _ wr => ∃ j : Nat, 1 ≤ j ∧ (j : Int) ≤ n + 1 ∧ a = .int .i64 j ∧ FillR w b p n i j wr) (fun a _ _ => (n + 1 - intOf a).toNat)
      case atStart => exact ⟨1, Nat.le_refl _, by omega, rfl, HFi.out⟩
      case round =>
        obtain ⟨j, hj1, hjn, rfl, hf⟩ := hrel
        have HFj := Lib.hid hf
        clear hf HFi
        by_cases hlt2 : (j : Int) ≤ n
        · have hd2 : decide ((j : Int) ≤ n) = true := by simpa using hlt2
          have v1 : IntKind.i64.wrap (p - i) = p - i := wrap_is rfl (by omega) (by omega)
          have v2 : IntKind.i64.wrap (p - i - j) = p - i - j := wrap_is rfl (by omega) (by omega)
          have HV := Lib.hid (show ∃ c, c = p - i - j from ⟨_, rfl⟩)
          by_cases hc : p - i - j > n
          · have hd3 : decide (p - (i : Int) - (j : Int) > n) = true := by simpa using hc
            have HS := Lib.hid (HFj.out.skip (fun hh => by omega) hn)
            clear hc HFj
            go_wp2_with fail
            go_roundw
            case rel => exact ⟨j + 1, by omega, by omega, by go_num, HS.out⟩
            case measure => simp [intOf]; omega
          · have hd3 : decide (p - (i : Int) - (j : Int) > n) = false := by simpa using hc
            have hT := implThree_any i j (p - i - j) wr
            by_cases hs : sidesB i j (p - i - j) = true
            · obtain ⟨L, q1, q2, q4, q3⟩ := HFj.out.add hi1 hlt hn hj1 hlt2 (by omega) hs
              have HQ := Lib.hid q3
              rw [hs] at hT
              have hO : ∀ W, Calls Try.prog 98 #[.agg #[.int .i64 i, .int .i64 j, .int .i64 (p - i - j)]] W fun e w' => e = .returned (val3 (ord3 i j (p - i - j))) ∧ Below W.heap.size W w' := fun W => inOrder_any i j (p - i - j) _ _ _ W rfl rfl rfl
              obtain ⟨T, hTd⟩ : ∃ T, T = ord3 i j (p - i - j) := ⟨_, rfl⟩
              rw [← hTd] at q4 hO HQ
              clear hs HFj hc q3 hTd
              go_wp2_with (go_at_call 97; refine hT.mono ?_; rintro e w2 ⟨rfl, b2⟩)
              refine (hO _).mono ?_
              rintro e w3 ⟨rfl, b3⟩
              have s3 := (q1.same b2).same b3
              have g3 : wr.grownBy w3 (some b) := (grown_of_below (below_then b2 b3)).but _
              clear q1
              go_wp2_with (at_mapUpdate; refine wp_set_store _ rfl _ _ _ rfl b L rfl s3 q2 T rfl true rfl q4 ?_; intro w4 s4 g4)
              go_roundw
              case rel => exact ⟨j + 1, by omega, by omega, by go_num, HQ.out w4 s4 (grown_trans_row g3 g4)⟩
              case measure => simp [intOf]; omega
            · have HS := Lib.hid (HFj.out.skip (fun hh => hs hh.2) hn)
              rw [Bool.not_eq_true] at hs
              rw [hs] at hT
              clear hs HFj hc
              go_wp2_with (go_at_call 97; refine hT.mono ?_; rintro e w2 ⟨rfl, b2⟩)
              go_roundw
              case rel => exact ⟨j + 1, by omega, by omega, by go_num, HS.out.same b2⟩
              case measure => simp [intOf]; omega
        · have hd2 : decide ((j : Int) ≤ n) = false := by simpa using hlt2
          go_wp2_with fail
          go_roundw
          case rel => exact ⟨i + 1, by omega, by omega, by go_num, HFj.out.next (by omega) (by omega)⟩
          case measure => simp [intOf]; omega
    · have hd : decide ((i : Int) ≤ n) = false := by simpa using hlt
      go_wp2_with fail
      go_end0
      obtain ⟨L, q1, q2, q3⟩ := HFi.out.done (by omega)
      exact ⟨rfl, L, q1, fun x y z => q2 (x, y, z), q3⟩

/-- The set of the triangles of a round. -/
theorem ofRound_yes (p : Int) (w : World) (h : inB p 1 60 = true) :
    Calls Try.prog 74 #[.int .i64 p] w fun e w' => ∃ b L, e = .returned (.tuple #[.map (some b), .bool true]) ∧ w.heap.size ≤ b ∧ SetT w' b L ∧ (∀ t, t ∈ L ↔ Good p 60 t) ∧ Below w.heap.size w w' := by
  unfold inB at h
  simp at h
  have d1 : decide (p < 1) = false := by simp; omega
  have d2 : decide (p > 60) = false := by simp; omega
  have hmm := @run_makeMap Try.prog
  have hF := fill_any w.heap.size [] p 60 (w.alloc (.map #[] 0)) (SetT.made w) (by omega) (by omega) (by omega) (by omega)
  go_enter Try.func74, Try.ntmps74
  go_wp2_with fail
  refine hF.mono ?_
  rintro e w2 ⟨rfl, L, s2, m2, g2⟩
  have b2 : Below w.heap.size w w2 := (below_alloc (Below.refl _ _) _).grown g2 (by simp) (fun k e => by cases e; exact Nat.le_refl _)
  go_wp2_with fail
  go_ret2
  exact ⟨_, L, rfl, Nat.le_refl _, s2, m2, b2⟩
theorem ofRound_no (p : Int) (w : World) (h : inB p 1 60 = false) :
    Calls Try.prog 74 #[.int .i64 p] w fun e w' => e = .returned (.tuple #[.map none, .bool false]) ∧ Below w.heap.size w w' := by
  by_cases h1 : p < 1
  · have d1 : decide (p < 1) = true := by simpa using h1
    go_enter Try.func74, Try.ntmps74
    go_wp2_with fail
    go_ret2
    exact ⟨rfl, Below.refl _ _⟩
  · have d1 : decide (p < 1) = false := by simpa using h1
    have d2 : decide (p > 60) = true := by
      unfold inB at h
      simp at h ⊢
      omega
    go_enter Try.func74, Try.ntmps74
    go_wp2_with fail
    go_ret2
    exact ⟨rfl, Below.refl _ _⟩

theorem implTriCount_any (p : Int) (w : World) : Calls Try.prog 33 #[.int .i64 p] w fun e w' => e = .returned (.tuple #[.int .i64 (rndM p), .bool (inB p 1 60)]) ∧ Below w.heap.size w w' := by
  by_cases h : inB p 1 60 = true
  · have hp := h
    unfold inB at hp
    simp at hp
    have hO := ofRound_yes p w h
    rw [h]
    go_enter Try.func33, Try.ntmps33
    go_wp2_with fail
    refine hO.mono ?_
    rintro e w2 ⟨b, L, rfl, hb, s2, m2, b2⟩
    have hl := s2.len
    have HE := Lib.hid (show ((L.length : Nat) : Int) = rndM p by rw [← len_allP hp.1 hp.2, len_of_mem s2.nodup (nodup_allP p) (fun t => (m2 t).trans (mem_allP hp.2).symm)])
    clear s2 m2
    go_wp2_with fail
    rw [HE.out]
    go_ret2
    exact ⟨rfl, b2⟩
  · rw [Bool.not_eq_true] at h
    have hO := ofRound_no p w h
    have hl := fun ty W => Maps.len_nil (w := W) Try.underlying51 ty
    rw [rndM_no h, h]
    go_enter Try.func33, Try.ntmps33
    go_wp2_with fail
    refine hO.mono ?_
    rintro e w2 ⟨rfl, b2⟩
    go_wp2_with fail
    go_ret2
    exact ⟨rfl, b2⟩
end Go.Proofs.Ytliplbifgldjeaa
