/- Contracts of the model's functions of chapter 9: the places of a three, the number of threes. -/
import Derived.Test.YtiadnbdefcimiaaPartP
import Derived.Test.YtiadnbdefcimiaaWid
namespace Go.Proofs.Ytiadnbdefcimiaa
open Go.RowKit

def intsN (l : List Nat) : List Int := l.map fun (p : Nat) => (p : Int)
def ofTo (l : List Int) (s : Int) (k : Nat) : List Nat := (List.range k).filter fun p => l.getD p 0 == s
theorem ofTo_yes {l : List Int} {s : Int} {k : Nat} (h : l.getD k 0 = s) : ofTo l s (k + 1) = ofTo l s k ++ [k] := by
  unfold ofTo; rw [List.range_succ, List.filter_append, List.filter_cons, if_pos (by simpa using h), List.filter_nil]
theorem ofTo_no {l : List Int} {s : Int} {k : Nat} (h : l.getD k 0 ≠ s) : ofTo l s (k + 1) = ofTo l s k := by
  unfold ofTo; rw [List.range_succ, List.filter_append, List.filter_cons, if_neg (by simpa using h), List.filter_nil, List.append_nil]
theorem ofTo_len (l : List Int) (s : Int) (k : Nat) : (ofTo l s k).length ≤ k := Nat.le_trans (List.length_filter_le _ _) (by simp)
theorem ofTo_all {l : List Int} {n : Nat} (s : Int) (h : l.length = n) : ofTo l s n = ofP l s := by unfold ofTo ofP; rw [h]

set_option maxHeartbeats 1000000 in
theorem l9Of_any (A : Option Addr) (n c : Nat) (xs : List Int) (s : Int) (w : World) (h : Rd w A n xs) (hn : n ≤ 1000) :
    Calls Try.prog 72 #[.slice A n c, .int .i64 s] w fun e w' => (∃ A' c', e = .returned (.slice A' (ofP xs s).length c') ∧ Own w' w.heap.size A' (ofP xs s).length c' (intsN (ofP xs s))) ∧ Below w.heap.size w w' := by
  have HL := Lib.hid h.1
  have hl := Own.lit w (Nat.le_refl _) [] (by simp)
  go_enter Try.func72, Try.ntmps72
  go_wp2
  go_loopw [5, 6] (fun v i wr => ∃ (k c' : Nat) (A' : Option Addr), k ≤ n ∧ i = .int .i64 k ∧ v = .slice A' (ofTo xs s k).length c' ∧ Own wr w.heap.size A' (ofTo xs s k).length c' (intsN (ofTo xs s k)) ∧ Below w.heap.size w wr) (fun _ i _ => n - (intOf i).toNat)
  case atStart => exact ⟨0, _, _, Nat.zero_le _, rfl, rfl, hl, below_alloc (Below.refl _ _) _⟩
  case round =>
    obtain ⟨k, c', A', hk, rfl, rfl, ho, hb⟩ := hrel
    clear hl
    by_cases hlt : k < n
    · obtain ⟨b, off, rfl, hbl, hc⟩ := h.2 (by omega)
      have hcx : wr.cell? ⟨b, off + k, none⟩ = some (.int .i64 (xs.getD k 0)) := (hb.cell (p := ⟨b, off + k, none⟩) hbl).trans (hc k hlt)
      have hle := ofTo_len xs s k
      have HY := Lib.hid (fun h => ofTo_yes (l := xs) (s := s) (k := k) h)
      have HN := Lib.hid (fun h => ofTo_no (l := xs) (s := s) (k := k) h)
      obtain ⟨x, ex⟩ : ∃ x, x = xs.getD k 0 := ⟨_, rfl⟩
      rw [← ex] at hcx
      have EX := Lib.hid ex
      clear ex hc h
      by_cases hx : x = s
      · subst hx
        have e1 := HY.out EX.out.symm
        have oa := ho.al (.cells #[.int .i64 k] 3)
        have HS := Lib.hid hb.size
        have HB := Lib.hid hb
        have HE := Lib.hid e1
        clear e1 hb ho
        generalize ofTo xs x k = L at *
        go_wp2_with (at_builtin; refine wpList_app rfl (.tmp 20) (.tmp 22) rfl rfl oa rfl (rd_one _ _) (by omega) (by have := HS.out; simp; omega) ?_; intro A2 c2 W' ho' hg')
        have hb2 := app_mark (below_alloc HB.out (.cells #[.int .i64 k] 3)) oa (Nat.le_refl _) hg'
        go_roundw
        case rel =>
          have hf : Own W' w.heap.size A2 (ofTo xs x (k + 1)).length c2 (intsN (ofTo xs x (k + 1))) := by
            rw [HE.out, List.length_append, List.length_singleton]
            have : intsN (L ++ [k]) = intsN L ++ [(k : Int)] := by simp [intsN]
            rw [this]; exact ho'
          exact ⟨k + 1, c2, A2, by omega, by go_num, by rw [HE.out, List.length_append, List.length_singleton], hf, hb2⟩
        case measure => simp [intOf]; omega
      · have e1 := HN.out (by rw [← EX.out]; exact hx)
        have HO := Lib.hid ho
        have HE := Lib.hid e1
        clear e1 ho
        generalize hLL : ofTo xs s k = L at *
        go_wp2
        go_roundw
        case rel => exact ⟨k + 1, c', A', by omega, by go_num, by rw [HE.out], by rw [HE.out]; exact HO.out, hb⟩
        case measure => simp [intOf]; omega
    · obtain rfl : k = n := by omega
      have HE := Lib.hid (ofTo_all s HL.out)
      rw [HE.out] at ho ⊢
      have HO := Lib.hid ho
      clear h ho
      go_wp2
      go_ret
      exact ⟨⟨A', c', rfl, HO.out⟩, hb⟩

/-- So far. -/
def thrTo (l : List Int) (k : Nat) : Int := thrL (l.take k)
theorem thrTo_succ {l : List Int} {k : Nat} (h : k < l.length) : thrTo l (k + 1) = max (thrTo l k) (l.getD k 0 + 1) := by
  unfold thrTo thrL
  rw [List.take_succ_eq_append_getElem h, List.foldl_append]
  simp [List.getD_eq_getElem?_getD, h]
theorem thrTo_bd {l : List Int} (h : ∀ j, j < l.length → -1 ≤ l.getD j 0 ∧ l.getD j 0 ≤ 1000) : ∀ k, k ≤ l.length → 0 ≤ thrTo l k ∧ thrTo l k ≤ 1001
  | 0, _ => by simp [thrTo, thrL]
  | k + 1, hk => by
    rw [thrTo_succ hk]
    have := thrTo_bd h k (by omega)
    have := h k hk
    omega
set_option maxHeartbeats 1000000 in
theorem l9Threes_any (A : Option Addr) (n c : Nat) (xs : List Int) (w : World) (h : Rd w A n xs) (hn : n ≤ 1000) (hx : ∀ j, j < xs.length → -1 ≤ xs.getD j 0 ∧ xs.getD j 0 ≤ 1000) :
    Calls Try.prog 58 #[.slice A n c] w fun e w' => e = .returned (.int .i64 (thrL xs)) ∧ Below w.heap.size w w' := by
  have HL := Lib.hid h.1
  have HX := Lib.hid hx
  clear hx
  go_enter Try.func58, Try.ntmps58
  go_wp2
  go_loopw [3, 4] (fun v i wr => ∃ k : Nat, k ≤ n ∧ i = .int .i64 k ∧ v = .int .i64 (thrTo xs k) ∧ Below w.heap.size w wr) (fun _ i _ => n - (intOf i).toNat)
  case atStart => exact ⟨0, Nat.zero_le _, rfl, rfl, Below.refl _ _⟩
  case round =>
    obtain ⟨k, hk, rfl, rfl, hb⟩ := hrel
    have hbd := thrTo_bd HX.out k (by rw [HL.out]; exact hk)
    by_cases hlt : k < n
    · obtain ⟨b, off, rfl, hbl, hc⟩ := h.2 (by omega)
      have hcx : wr.cell? ⟨b, off + k, none⟩ = some (.int .i64 (xs.getD k 0)) := (hb.cell (p := ⟨b, off + k, none⟩) hbl).trans (hc k hlt)
      have hx := HX.out k (by rw [HL.out]; exact hlt)
      have hs := thrTo_succ (l := xs) (k := k) (by rw [HL.out]; exact hlt)
      obtain ⟨x, ex⟩ : ∃ x, x = xs.getD k 0 := ⟨_, rfl⟩
      rw [← ex] at hcx hx hs
      obtain ⟨z, ez⟩ : ∃ z, z = thrTo xs (k + 1) := ⟨_, rfl⟩
      rw [← ez] at hs
      have EZ := Lib.hid ez
      generalize thrTo xs k = y at *
      have HS := Lib.hid (show z = y ∧ x + 1 ≤ y ∨ z = x + 1 ∧ y < x + 1 from by omega)
      have v1 : IntKind.i64.wrap (x + 1) = x + 1 := wrap_is rfl (by omega) (by omega)
      clear ex ez hc h hs
      go_wp2
      go_roundw
      case rel => exact ⟨k + 1, by omega, by go_num, by rw [← EZ.out]; congr 1; have := HS.out; split <;> omega, hb⟩
      case measure => simp [intOf]; omega
    · obtain rfl : k = n := by omega
      have e : thrTo xs k = thrL xs := by unfold thrTo; rw [← HL.out, List.take_length]
      rw [e]
      clear h hbd
      go_wp2
      go_ret
      exact ⟨rfl, hb⟩
end Go.Proofs.Ytiadnbdefcimiaa
