/- The program's small functions on part lists. -/
import Derived.Test.YtiadnbdefcimiaaParS
import Derived.Test.YtiadnbdefcimiaaI1a
import Derived.Test.YtiadnbdefcimiaaPathS
namespace Go.Proofs.Ytiadnbdefcimiaa
open Go.RowKit

set_option maxHeartbeats 1000000 in
theorem indexP_any (A : Option Addr) (n c : Nat) (l : List Int) (x : Int) (w : World) (h : Rd w A n l) (hn : n ≤ 1048576) :
    Calls Try.prog 97 #[.slice A n c, .int .i64 x] w fun e w' => (∃ r : Int, e = .returned (.int .i64 r) ∧ decide (0 ≤ r) = decide (x ∈ l)) ∧ Below w.heap.size w w' := by
  have HL := Lib.hid h.1
  go_enter Try.func97, Try.ntmps97
  go_wp2_with fail
  go_loopw [5, 8] (fun _ i wr => ∃ k : Nat, k ≤ n ∧ i = .int .i64 k ∧ (∀ j, j < k → l.getD j 0 ≠ x) ∧ Below w.heap.size w wr) (fun _ i _ => n - (intOf i).toNat)
  case atStart => exact ⟨0, Nat.zero_le _, rfl, fun j hj => absurd hj (by omega), Below.refl _ _⟩
  case round =>
    obtain ⟨k, hk, rfl, hno, hb⟩ := hrel
    have HNO := Lib.hid hno
    clear hno
    by_cases hlt : k < n
    · obtain ⟨b, off, rfl, hbl, hc⟩ := h.2 (by omega)
      have hcx : wr.cell? ⟨b, off + k, none⟩ = some (.int .i64 (l.getD k 0)) := (hb.cell (p := ⟨b, off + k, none⟩) hbl).trans (hc k hlt)
      have HMm := Lib.hid (show l.getD k 0 ∈ l by rw [List.getD_eq_getElem?_getD, List.getElem?_eq_getElem (by rw [HL.out]; exact hlt)]; exact List.getElem_mem _)
      obtain ⟨y, ey⟩ : ∃ y, y = l.getD k 0 := ⟨_, rfl⟩
      rw [← ey] at hcx
      have EY := Lib.hid ey
      clear ey hc h
      by_cases e1 : x = y
      · subst e1
        go_wp2_with fail
        go_ret
        refine ⟨⟨(k : Int), rfl, ?_⟩, hb⟩
        have hm := HMm.out
        rw [← EY.out] at hm
        rw [decide_eq_true hm]
        simp
      · have e2 : (x == y) = false := by simpa using e1
        go_wp2_with fail
        go_roundw
        case rel =>
          have hT : ∀ j, j < k + 1 → l.getD j 0 ≠ x := fun j hj => by
            by_cases e : j = k
            · rw [e, ← EY.out]; exact fun h => e1 h.symm
            · exact HNO.out j (by omega)
          first
            | exact ⟨k + 1, by omega, by go_num, hT, hb⟩
            | ((repeat apply Exists.intro); exact ⟨⟨k + 1, by omega, by go_num, hT, hb⟩, rfl⟩)
        case measure => simp [intOf]; omega
    · obtain rfl : k = n := by omega
      go_wp2_with fail
      go_ret
      refine ⟨⟨-1, rfl, ?_⟩, hb⟩
      have hm : x ∉ l := fun hm => by
        obtain ⟨j, hj, e⟩ := List.getElem_of_mem hm
        refine HNO.out j (by rw [← HL.out]; exact hj) ?_
        rw [List.getD_eq_getElem?_getD, List.getElem?_eq_getElem hj]; exact e
      rw [decide_eq_false hm]
      rfl
theorem containsP_any (A : Option Addr) (n c : Nat) (l : List Int) (x : Int) (w : World) (h : Rd w A n l) (hn : n ≤ 1048576) :
    Calls Try.prog 87 #[.slice A n c, .int .i64 x] w fun e w' => e = .returned (.bool (decide (x ∈ l))) ∧ Below w.heap.size w w' := by
  have HI := Lib.hid (indexP_any A n c l x w h hn)
  obtain ⟨bz, ebz⟩ : ∃ bz, bz = decide (x ∈ l) := ⟨_, rfl⟩
  rw [← ebz]
  rw [← ebz] at HI
  clear h ebz
  go_enter Try.func87, Try.ntmps87
  go_wp2_with fail
  refine HI.out.mono ?_
  rintro e w2 ⟨⟨r, rfl, hr⟩, b2⟩
  have HRR := Lib.hid hr
  clear hr
  go_wp2_with fail
  go_ret
  exact ⟨ret_b HRR.out, b2⟩

theorem whole_any (A : Option Addr) (n c : Nat) (l : List Int) (w : World) (h : Rd w A n l) (hn : n ≤ 1048576) :
    Calls Try.prog 57 #[.slice A n c] w fun e w' => e = .returned (.bool (whlB l)) ∧ Below w.heap.size w w' := by
  have HC := Lib.hid (containsP_any A n c l (-1) w h hn)
  have HW := Lib.hid (show whlB l = !decide ((-1 : Int) ∈ l) from rfl)
  obtain ⟨bz, ebz⟩ : ∃ bz, bz = decide ((-1 : Int) ∈ l) := ⟨_, rfl⟩
  rw [← ebz] at HC HW
  clear h ebz
  go_enter Try.func57, Try.ntmps57
  go_wp2_with fail
  refine HC.out.mono ?_
  rintro e w2 ⟨rfl, b2⟩
  go_wp2_with fail
  go_ret
  exact ⟨by rw [HW.out]; rfl, b2⟩

set_option maxHeartbeats 1000000 in
theorem maxP_any (A : Option Addr) (n c : Nat) (xs : List Int) (w : World) (h : Rd w A n xs) (hn1 : 1 ≤ n) (hn : n ≤ 1000) (hx : ∀ j, j < xs.length → -1 ≤ xs.getD j 0 ∧ xs.getD j 0 ≤ 1000) :
    Calls Try.prog 86 #[.slice A n c] w fun e w' => e = .returned (.int .i64 (thrL xs - 1)) ∧ Below w.heap.size w w' := by
  have HL := Lib.hid h.1
  have HX := Lib.hid hx
  obtain ⟨b, off, rfl, hbl, hc⟩ := h.2 hn1
  have HC := Lib.hid hc
  have q0 := hc 0 (by omega)
  rw [Nat.add_zero] at q0
  have h1 := thrTo_succ (l := xs) (k := 0) (by rw [HL.out]; exact hn1)
  have hx0 := hx 0 (by rw [HL.out]; exact hn1)
  have h0 : thrTo xs 0 = 0 := by simp [thrTo, thrL]
  have H1 := Lib.hid (show xs.getD 0 0 = thrTo xs 1 - 1 by rw [h1, h0]; omega)
  obtain ⟨x0, ex0⟩ : ∃ x0, x0 = xs.getD 0 0 := ⟨_, rfl⟩
  rw [← ex0] at q0 H1
  clear hx hc h h1 hx0 h0 ex0
  go_enter Try.func86, Try.ntmps86
  go_wp2_with fail
  go_loopw [3, 4] (fun v i wr => ∃ k : Nat, 1 ≤ k ∧ k ≤ n ∧ i = .int .i64 k ∧ v = .int .i64 (thrTo xs k - 1) ∧ Below w.heap.size w wr) (fun _ i _ => n - (intOf i).toNat)
  case atStart => exact ⟨1, Nat.le_refl _, hn1, rfl, by rw [H1.out], Below.refl _ _⟩
  case round =>
    obtain ⟨k, hk1, hk, rfl, rfl, hb⟩ := hrel
    have hbd := thrTo_bd HX.out k (by rw [HL.out]; exact hk)
    by_cases hlt : k < n
    · have hcx : wr.cell? ⟨b, off + k, none⟩ = some (.int .i64 (xs.getD k 0)) := (hb.cell (p := ⟨b, off + k, none⟩) hbl).trans (HC.out k hlt)
      have hx := HX.out k (by rw [HL.out]; exact hlt)
      have hs := thrTo_succ (l := xs) (k := k) (by rw [HL.out]; exact hlt)
      obtain ⟨x, ex⟩ : ∃ x, x = xs.getD k 0 := ⟨_, rfl⟩
      rw [← ex] at hcx hx hs
      obtain ⟨z, ez⟩ : ∃ z, z = thrTo xs (k + 1) := ⟨_, rfl⟩
      rw [← ez] at hs
      have EZ := Lib.hid ez
      obtain ⟨y, ey⟩ : ∃ y, y = thrTo xs k - 1 := ⟨_, rfl⟩
      rw [← ey]
      have HS := Lib.hid (show z - 1 = y ∧ x ≤ y ∨ z - 1 = x ∧ y < x from by omega)
      clear ex ez hs ey hbd
      go_wp2_with fail
      go_roundw
      case rel => exact ⟨k + 1, by omega, by omega, by go_num, by rw [← EZ.out]; congr 1; have := HS.out; split <;> omega, hb⟩
      case measure => simp [intOf]; omega
    · obtain rfl : k = n := by omega
      have e : thrTo xs k = thrL xs := by unfold thrTo; rw [← HL.out, List.take_length]
      rw [e]
      clear hbd
      go_wp2_with fail
      go_ret
      exact ⟨rfl, hb⟩
theorem thrL_bd {xs : List Int} (hx : ∀ j, j < xs.length → -1 ≤ xs.getD j 0 ∧ xs.getD j 0 ≤ 1000) : 0 ≤ thrL xs ∧ thrL xs ≤ 1001 := by
  have := thrTo_bd hx xs.length (Nat.le_refl _)
  unfold thrTo at this
  rwa [List.take_length] at this
theorem threes_any (A : Option Addr) (n c : Nat) (xs : List Int) (w : World) (h : Rd w A n xs) (hn1 : 1 ≤ n) (hn : n ≤ 1000) (hx : ∀ j, j < xs.length → -1 ≤ xs.getD j 0 ∧ xs.getD j 0 ≤ 1000) :
    Calls Try.prog 52 #[.slice A n c] w fun e w' => e = .returned (.int .i64 (thrL xs)) ∧ Below w.heap.size w w' := by
  have HM := Lib.hid (maxP_any A n c xs w h hn1 hn hx)
  have hb := thrL_bd hx
  obtain ⟨z, ez⟩ : ∃ z, z = thrL xs := ⟨_, rfl⟩
  rw [← ez] at HM hb ⊢
  have v1 : IntKind.i64.wrap (z - 1 + 1) = z := wrap_is (by omega) (by omega) (by omega)
  clear h hx ez
  go_enter Try.func52, Try.ntmps52
  go_wp2_with fail
  refine HM.out.mono ?_
  rintro e w2 ⟨rfl, b2⟩
  go_wp2_with fail
  go_ret
  exact ⟨by first | rfl | (congr 2; omega), b2⟩

/-- The lengths of the places with a number. -/
def stkL (zs l : List Int) (s : Int) : List Int := (ofP l s).map fun p => zs.getD p 0
def stkTo (zs l : List Int) (s : Int) (k : Nat) : List Int := (ofTo l s k).map fun p => zs.getD p 0
set_option maxHeartbeats 1000000 in
theorem stickL_any (A A2 : Option Addr) (n c n2 c2 : Nat) (l zs : List Int) (s : Int) (w : World) (h : Rd w A n l) (h2 : Rd w A2 n2 zs) (hnn : n ≤ n2) (hn : n ≤ 1000) :
    Calls Try.prog 55 #[.slice A n c, .slice A2 n2 c2, .int .i64 s] w fun e w' => (∃ A' c', e = .returned (.slice A' (stkL zs l s).length c') ∧ Own w' w.heap.size A' (stkL zs l s).length c' (stkL zs l s)) ∧ Below w.heap.size w w' := by
  have HL := Lib.hid h.1
  have HH := Lib.hid h
  have HH2 := Lib.hid h2
  have hl := Own.lit w (Nat.le_refl _) [] (by simp)
  clear h h2
  go_enter Try.func55, Try.ntmps55
  go_wp2_with fail
  go_loopw [7, 8, 9, 13] (fun v _ _ i wr => ∃ (k c' : Nat) (A' : Option Addr), k ≤ n ∧ i = .int .i64 k ∧ v = .slice A' (stkTo zs l s k).length c' ∧ Own wr w.heap.size A' (stkTo zs l s k).length c' (stkTo zs l s k) ∧ Below w.heap.size w wr) (fun _ _ _ i _ => n - (intOf i).toNat)
  case atStart => exact ⟨0, _, _, Nat.zero_le _, rfl, rfl, hl, below_alloc (Below.refl _ _) _⟩
  case round =>
    obtain ⟨k, c', A', hk, rfl, rfl, ho, hb⟩ := hrel
    clear hl
    by_cases hlt : k < n
    · obtain ⟨b, off, rfl, hbl, hc⟩ := HH.out.2 (by omega)
      obtain ⟨b2, off2, rfl, hbl2, hc2⟩ := HH2.out.2 (by omega)
      have hcx : wr.cell? ⟨b, off + k, none⟩ = some (.int .i64 (l.getD k 0)) := (hb.cell (p := ⟨b, off + k, none⟩) hbl).trans (hc k hlt)
      have hcy : wr.cell? ⟨b2, off2 + k, none⟩ = some (.int .i64 (zs.getD k 0)) := (hb.cell (p := ⟨b2, off2 + k, none⟩) hbl2).trans (hc2 k (by omega))
      have hle : (stkTo zs l s k).length ≤ k := by unfold stkTo; rw [List.length_map]; exact ofTo_len l s k
      have HY := Lib.hid (fun (h : l.getD k 0 = s) => (by unfold stkTo; rw [ofTo_yes h, List.map_append]; rfl : stkTo zs l s (k + 1) = stkTo zs l s k ++ [zs.getD k 0]))
      have HN := Lib.hid (fun (h : l.getD k 0 ≠ s) => (by unfold stkTo; rw [ofTo_no h] : stkTo zs l s (k + 1) = stkTo zs l s k))
      obtain ⟨x, ex⟩ : ∃ x, x = l.getD k 0 := ⟨_, rfl⟩
      rw [← ex] at hcx HY HN
      obtain ⟨y, ey⟩ : ∃ y, y = zs.getD k 0 := ⟨_, rfl⟩
      rw [← ey] at hcy HY
      have hk2 : (k : Int) < (n2 : Int) := by omega
      clear ex ey hc hc2
      by_cases hx : x = s
      · subst hx
        have HE := Lib.hid (HY.out rfl)
        have oa := ho.al (.cells #[.int .i64 y] 3)
        have HS := Lib.hid hb.size
        have HB := Lib.hid hb
        clear hb ho HY HN
        generalize stkTo zs l x k = L at *
        go_wp2_with (at_builtin; refine wpList_appT 39 Try.underlying39 rfl (.tmp 21) (.tmp 26) rfl rfl oa rfl (rd_one _ _) (by omega) (by have := HS.out; simp; omega) ?_; intro A3 c3 W' ho' hg')
        have hb2 := app_mark (below_alloc HB.out (.cells #[.int .i64 y] 3)) oa (Nat.le_refl _) hg'
        go_roundw
        case rel =>
          have hf : Own W' w.heap.size A3 (stkTo zs l x (k + 1)).length c3 (stkTo zs l x (k + 1)) := by
            rw [HE.out, List.length_append, List.length_singleton]; exact ho'
          exact ⟨k + 1, c3, A3, by omega, by go_num, by rw [HE.out, List.length_append, List.length_singleton], hf, hb2⟩
        case measure => simp [intOf]; omega
      · have HE := Lib.hid (HN.out hx)
        have HO := Lib.hid ho
        have e1 : (x == s) = false := by simpa using hx
        clear ho HY HN
        generalize hLL : stkTo zs l s k = L at *
        go_wp2_with fail
        go_roundw
        case rel => exact ⟨k + 1, c', A', by omega, by go_num, by rw [HE.out], by rw [HE.out]; exact HO.out, hb⟩
        case measure => simp [intOf]; omega
    · obtain rfl : k = n := by omega
      have HE := Lib.hid (show stkTo zs l s k = stkL zs l s by unfold stkTo stkL; rw [ofTo_all s HL.out])
      rw [HE.out] at ho ⊢
      have HO := Lib.hid ho
      clear ho
      go_wp2_with fail
      go_ret
      exact ⟨⟨A', c', rfl, HO.out⟩, hb⟩
end Go.Proofs.Ytiadnbdefcimiaa
