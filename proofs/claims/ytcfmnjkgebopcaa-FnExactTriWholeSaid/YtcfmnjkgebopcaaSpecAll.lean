/- l2All, TriAll, TriCount, TriInside of the specification. -/
import Derived.Test.YtcfmnjkgebopcaaTriRows
import Derived.Test.YtcfmnjkgebopcaaTri
namespace Go.Proofs.Ytcfmnjkgebopcaa
open Go.RowKit

/-- The list built so far. -/
def AllRel (w : World) (L : List T3) (v : Value) (wr : World) : Prop :=
  ∃ A c gs, v = .slice A L.length c ∧ OwnT wr w.heap.size A L.length c gs L ∧ Below w.heap.size w wr
theorem AllRel.same {w wr w' : World} {L : List T3} {v : Value} (h : AllRel w L v wr) (hb : Below wr.heap.size wr w') : AllRel w L v w' := by
  obtain ⟨A, c, gs, h1, h2, h3⟩ := h
  exact ⟨A, c, gs, h1, h2.same hb, below_then h3 hb⟩
theorem own_mark {W W' : World} {A : Option Addr} {n c : Nat} {w : World} {gs : List Nat} {L : List T3} (hb : Below w.heap.size w W) (ho : OwnT W w.heap.size A n c gs L) (hg : W.grownBy W' (Value.slice A n c).ownBlock) : Below w.heap.size w W' :=
  hb.grown hg hb.size (fun k e => (ho.row.lt k e).1)
theorem len_rowB (p a : Int) : ∀ k, (rowB p a k).length ≤ k
  | 0 => by simp [rowB]
  | k + 1 => by
    have := len_rowB p a k
    rw [rowB, List.length_append]
    split <;> simp <;> omega
theorem len_rowsA {p : Int} (hp : p ≤ 60) : ∀ i, (rowsA p i).length ≤ 61 * i
  | 0 => by simp [rowsA]
  | i + 1 => by
    have h1 := len_rowsA hp i
    have h2 := len_rowB p ((i : Int) + 1) (cntB p ((i : Int) + 1))
    rw [rowsA, List.length_append]
    have h3 : cntB p ((i : Int) + 1) ≤ 61 := by unfold cntB; omega
    omega
theorem rows_next (p : Int) (i : Nat) : rowsA p i ++ rowB p ((i : Int) + 1) (cntB p ((i : Int) + 1)) = rowsA p (i + 1) := by rw [rowsA]
theorem new_row {gs : List Nat} {W : World} {B n c : Nat} {A : Option Addr} {L : List T3} (h : OwnT W B A n c gs L) : W.heap.size ∉ gs := by
  intro hm
  obtain ⟨i, hi, e⟩ := List.getElem_of_mem hm
  have := (h.rows i (by rw [← h.len]; exact hi)).2.lt
  rw [show gs.getD i 0 = gs[i] by simp [List.getD_eq_getElem?_getD, hi], e] at this
  omega

theorem AllRel.push {w W' : World} {A' : Option Addr} {c' g : Nat} {gs : List Nat} {L M : List T3} {t : T3} (ho : OwnT W' w.heap.size A' (L.length + 1) c' (gs ++ [g]) (L ++ [t])) (hb : Below w.heap.size w W') (hM : M = L ++ [t]) : AllRel w M (.slice A' (L.length + 1) c') W' := by
  subst hM
  have e : (L ++ [t]).length = L.length + 1 := by simp
  exact ⟨A', c', gs ++ [g], by rw [e], by rw [e]; exact ho, hb⟩
/-- A row of three, and the cell that an append reads it from. -/
theorem trip_box (w : World) (a b c : Int) :
    ((w.alloc (.cells #[.int .i64 a, .int .i64 b, .int .i64 c] 3)).alloc (.cells #[rowV w.heap.size] 23)).cell? ⟨w.heap.size + 1, 0, none⟩ = some (rowV w.heap.size) ∧
    TripAt ((w.alloc (.cells #[.int .i64 a, .int .i64 b, .int .i64 c] 3)).alloc (.cells #[rowV w.heap.size] 23)) w.heap.size (a, b, c) := by
  constructor
  · have := World.alloc_heap_new (w.alloc (.cells #[.int .i64 a, .int .i64 b, .int .i64 c] 3)) (.cells #[rowV w.heap.size] 23)
    rw [World.size_alloc] at this
    rw [cell_of_row _ _ 0 _ _ _ this]; rfl
  · exact (Below.heap_alloc _ _ _ (by simp)).trans (TripAt.made w (a, b, c))
theorem row_yes {p a : Int} {k : Nat} {P : List T3} (h : goodB a (a + k) (p - a - (a + k)) = true) : P ++ rowB p a (k + 1) = (P ++ rowB p a k) ++ [(a, a + k, p - a - (a + k))] := by
  rw [rowB, if_pos h, List.append_assoc]
theorem row_no {p a : Int} {k : Nat} {P : List T3} (h : ¬ goodB a (a + k) (p - a - (a + k)) = true) : P ++ rowB p a (k + 1) = P ++ rowB p a k := by
  rw [rowB, if_neg h, List.append_nil]

set_option maxRecDepth 100000 in
set_option maxHeartbeats 4000000 in
theorem l2All_any (p : Int) (w : World) (h1 : 1 ≤ p) (h2 : p ≤ 60) :
    Calls Try.prog 129 #[.int .i64 p] w fun e w' => ∃ A c, e = .returned (.slice A (allP p).length c) ∧ (∃ gs, OwnT w' w.heap.size A (allP p).length c gs (allP p)) ∧ Below w.heap.size w w' := by
  have H0 : Hid (AllRel w [] (.slice (some ⟨w.heap.size, 0, none⟩) 0 0) (w.alloc (.cells #[] 23))) :=
    Lib.hid ⟨_, 0, [], rfl, ⟨World.ownsRow_lit (e := 23) (size := 1) w #[] 0 (Nat.le_refl _) (by unfold maxLen; omega) (by simp), rfl, List.nodup_nil, fun i hi => absurd hi (by simp)⟩, below_alloc (Below.refl _ _) _⟩
  go_enter Try.func129, Try.ntmps129
  go_wp2_with fail
  go_loopw [3, 4, 5, 6] (fun v a _ _ wr => ∃ i : Nat, (i : Int) ≤ p ∧ a = .int .i64 ((i : Int) + 1) ∧ AllRel w (rowsA p i) v wr) (fun _ a _ _ _ => (p + 1 - intOf a).toNat)
  case atStart => exact ⟨0, by omega, rfl, H0.out⟩
  case round =>
    obtain ⟨i, hi, rfl, hr⟩ := hrel
    have HR := Lib.hid hr
    clear hr H0
    by_cases hlt : (i : Int) + 1 ≤ p
    · have hd : decide ((i : Int) + 1 ≤ p) = true := by simpa using hlt
      go_wp2_with fail
      go_loopw [3, 5, 6] (fun v a _ wr => ∃ k : Nat, k ≤ cntB p ((i : Int) + 1) ∧ a = .int .i64 ((i : Int) + 1 + k) ∧ AllRel w (rowsA p i ++ rowB p ((i : Int) + 1) k) v wr) (fun _ a _ _ => (p + 1 - intOf a).toNat)
      case atStart => exact ⟨0, Nat.zero_le _, by simp, by simpa [rowB] using HR.out⟩
      case round =>
        obtain ⟨k, hk, rfl, hr⟩ := hrel
        have HK := Lib.hid hr
        clear hr HR
        by_cases hk2 : k < cntB p ((i : Int) + 1)
        · have hle : (i : Int) + 1 + ((i : Int) + 1 + (k : Int)) ≤ p := by unfold cntB at hk2; omega
          have hd2 : decide ((i : Int) + 1 + ((i : Int) + 1 + (k : Int)) ≤ p) = true := by simpa using hle
          have v1 : IntKind.i64.wrap ((i : Int) + 1 + ((i : Int) + 1 + (k : Int))) = (i : Int) + 1 + ((i : Int) + 1 + (k : Int)) := wrap_is rfl (by omega) (by omega)
          have v2 : IntKind.i64.wrap (p - ((i : Int) + 1)) = p - ((i : Int) + 1) := wrap_is rfl (by omega) (by omega)
          have v3 : IntKind.i64.wrap (p - ((i : Int) + 1) - ((i : Int) + 1 + (k : Int))) = p - ((i : Int) + 1) - ((i : Int) + 1 + (k : Int)) := wrap_is rfl (by omega) (by omega)
          have hn : (rowsA p i ++ rowB p ((i : Int) + 1) k).length ≤ 1000000 := by
            have q1 := len_rowsA h2 i
            have q2 := len_rowB p ((i : Int) + 1) k
            have q3 : cntB p ((i : Int) + 1) ≤ 61 := by unfold cntB; omega
            rw [List.length_append]; omega
          have HN := Lib.hid hn
          clear hn
          by_cases hc : p - ((i : Int) + 1) - ((i : Int) + 1 + (k : Int)) ≥ (i : Int) + 1 + (k : Int)
          · have hd3 : decide (p - ((i : Int) + 1) - ((i : Int) + 1 + (k : Int)) ≥ (i : Int) + 1 + (k : Int)) = true := by simpa using hc
            have hT := l1Three_any ((i : Int) + 1) ((i : Int) + 1 + (k : Int)) (p - ((i : Int) + 1) - ((i : Int) + 1 + (k : Int))) wr (by omega) (by omega) (by omega) (by omega) (by omega) (by omega)
            rw [triB_asc (by omega) (by omega) (by omega)] at hT
            by_cases hg : p - ((i : Int) + 1) - ((i : Int) + 1 + (k : Int)) < (i : Int) + 1 + ((i : Int) + 1 + (k : Int))
            · rw [decide_eq_true hg] at hT
              have hG : goodB ((i : Int) + 1) ((i : Int) + 1 + (k : Int)) (p - ((i : Int) + 1) - ((i : Int) + 1 + (k : Int))) = true := by unfold goodB; simp; omega
              have HL := Lib.hid (row_yes (P := rowsA p i) hG)
              obtain ⟨A, c0, gs, rfl, q1, q2⟩ := HK.out
              have hni := new_row q1
              obtain ⟨t1, t2⟩ := trip_box wr ((i : Int) + 1) ((i : Int) + 1 + (k : Int)) (p - ((i : Int) + 1) - ((i : Int) + 1 + (k : Int)))
              have q3 := (q1.al (.cells #[.int .i64 ((i : Int) + 1), .int .i64 ((i : Int) + 1 + (k : Int)), .int .i64 (p - ((i : Int) + 1) - ((i : Int) + 1 + (k : Int)))] 3)).al (.cells #[rowV wr.heap.size] 23)
              have q4 := below_alloc (below_alloc q2 (.cells #[.int .i64 ((i : Int) + 1), .int .i64 ((i : Int) + 1 + (k : Int)), .int .i64 (p - ((i : Int) + 1) - ((i : Int) + 1 + (k : Int)))] 3)) (.cells #[rowV wr.heap.size] 23)
              have q5 := q2.size
              clear HK hg hc hG
              generalize rowsA p i ++ rowB p ((i : Int) + 1) k = L at *
              go_wp2_with (first | (go_at_call 116; refine hT.mono ?_; rintro e w2 ⟨rfl, rfl⟩) | (at_builtin; refine wpList_appRow rfl _ _ rfl rfl q3 rfl t1 t2 q5 hni HN.out q4.size ?_; intro A' c' W' o' g'))
              go_roundw
              case rel => exact ⟨k + 1, by omega, by go_num, AllRel.push o' (own_mark q4 q3 g') HL.out⟩
              case measure => simp [intOf]; omega
            · rw [decide_eq_false hg] at hT
              have HL := Lib.hid (row_no (p := p) (a := (i : Int) + 1) (k := k) (P := rowsA p i) (by unfold goodB; simp; omega))
              clear hg hc
              go_wp2_with (go_at_call 116; refine hT.mono ?_; rintro e w2 ⟨rfl, rfl⟩)
              go_roundw
              case rel => exact ⟨k + 1, by omega, by go_num, by rw [HL.out]; exact HK.out⟩
              case measure => simp [intOf]; omega
          · have hd3 : decide (p - ((i : Int) + 1) - ((i : Int) + 1 + (k : Int)) ≥ (i : Int) + 1 + (k : Int)) = false := by simpa using hc
            have HL := Lib.hid (row_no (p := p) (a := (i : Int) + 1) (k := k) (P := rowsA p i) (by unfold goodB; simp; omega))
            clear hc
            go_wp2_with fail
            go_roundw
            case rel => exact ⟨k + 1, by omega, by go_num, by rw [HL.out]; exact HK.out⟩
            case measure => simp [intOf]; omega
        · have hle : ¬ (i : Int) + 1 + ((i : Int) + 1 + (k : Int)) ≤ p := by unfold cntB at hk2 hk; omega
          have hd2 : decide ((i : Int) + 1 + ((i : Int) + 1 + (k : Int)) ≤ p) = false := by simpa using hle
          have hk3 : k ≤ 61 := by unfold cntB at hk; omega
          have v1 : IntKind.i64.wrap ((i : Int) + 1 + ((i : Int) + 1 + (k : Int))) = (i : Int) + 1 + ((i : Int) + 1 + (k : Int)) := wrap_is rfl (by omega) (by omega)
          have e : rowsA p i ++ rowB p ((i : Int) + 1) k = rowsA p (i + 1) := by rw [← rows_next, show k = cntB p ((i : Int) + 1) by omega]
          have HE := Lib.hid e
          clear e
          go_wp2_with fail
          go_roundw
          case rel => exact ⟨i + 1, by omega, by go_num, by rw [← HE.out]; exact HK.out⟩
          case measure => simp [intOf]; omega
    · have hd : decide ((i : Int) + 1 ≤ p) = false := by simpa using hlt
      go_wp2_with fail
      go_ret
      obtain ⟨A, c, gs, rfl, q1, q2⟩ := HR.out
      have e : rowsA p i = allP p := by unfold allP; rw [show p.toNat = i by omega]
      rw [e] at q1 ⊢
      exact ⟨A, c, rfl, ⟨gs, q1⟩, q2⟩
end Go.Proofs.Ytcfmnjkgebopcaa
