/- PolyCount and PolyFirst of the model. -/
import Derived.Test.YtliplbifgldjeaaLst2
import Derived.Test.YtliplbifgldjeaaShares
namespace Go.Proofs.Ytliplbifgldjeaa
open Go.RowKit

theorem row_mem {L : List (List Int)} {i : Nat} (h : i < L.length) : rowAt L i ∈ L := by
  unfold rowAt
  rw [List.getD_eq_getElem?_getD, List.getElem?_eq_getElem h]
  exact List.getElem_mem h
theorem lst_small {s p x : Nat} (hp : p ≤ 30) {r : List Int} (h : r ∈ lst s p x) : Small 1000000 r := fun j hj => by
  have := (lst_mem s p x r h).2.1 _ (getD_mem hj)
  omega
def cntTo (L : List (List Int)) (i : Nat) : Nat := ((L.take i).filter closB).length
theorem take_row1 {R : List (List Int)} {i : Nat} (h : i < R.length) : R.take (i + 1) = R.take i ++ [rowAt R i] := by
  have := take_row h id
  simpa using this
theorem cntTo_yes {L : List (List Int)} {i : Nat} (h : i < L.length) (hc : closB (rowAt L i) = true) : cntTo L (i + 1) = cntTo L i + 1 := by
  unfold cntTo
  rw [take_row1 h, List.filter_append, List.length_append]
  simp only [List.filter_cons, hc, if_true, List.filter_nil, List.length_singleton]
theorem cntTo_no {L : List (List Int)} {i : Nat} (h : i < L.length) (hc : closB (rowAt L i) = false) : cntTo L (i + 1) = cntTo L i := by
  unfold cntTo
  rw [take_row1 h, List.filter_append, List.length_append]
  simp only [List.filter_cons, hc, List.filter_nil]
  rfl
theorem cntTo_le (L : List (List Int)) (i : Nat) : cntTo L i ≤ i := by
  unfold cntTo
  exact Nat.le_trans (List.length_filter_le _ _) (by rw [List.length_take]; omega)
theorem cntTo_all (n p : Nat) : cntTo (lst n p 1) (lst n p 1).length = polN n p := by unfold cntTo polN; rw [List.take_length]
theorem pow_seven {s : Nat} (h : s ≤ 6) : 32 ^ s ≤ 1073741824 := Nat.le_trans (Nat.pow_le_pow_right (by omega) h) (by decide)

set_option maxRecDepth 100000 in
set_option maxHeartbeats 2000000 in
theorem specPolyCount_any (n p : Int) (w : World) : Calls Try.prog 31 #[.int .i64 n, .int .i64 p] w fun e w' => e = .returned (.tuple #[.int .i64 (rstM n p), .bool (mayB n p)]) ∧ Below w.heap.size w w' := by
  by_cases hb : mayB n p = true
  · obtain ⟨N, P, rfl, rfl, h3, h4, h5, h6⟩ := mayB_true hb
    have HM := Lib.hid ((rstM_yes hb).trans (congrArg Nat.cast (cntTo_all N P).symm))
    have HB := Lib.hid hb
    have hq := l3Lists_any N P 1 N P 1 w rfl rfl rfl h4 h6 (by omega) (by omega)
    have hlen := lst_bd N P 1 h6
    have hpw := pow_seven h4
    have hsm : ∀ r ∈ lst N P 1, Small 1000000 r := fun r hr => lst_small h6 hr
    have hR : (lst N P 1).length ≤ 1073741824 := by omega
    have hrl : ∀ r ∈ lst N P 1, r.length ≤ 6 := fun r hr => by rw [lst_len _ _ _ r hr]; exact h4
    generalize lst N P 1 = R at *
    clear hb hlen hpw
    go_enter Try.func31, Try.ntmps31
    go_wp2_with fail
    refine (l3Given_any _ _ _).mono ?_
    rintro e w1 ⟨rfl, rfl⟩
    rw [HB.out]
    go_wp2_with fail
    refine hq.mono ?_
    rintro e w2 ⟨A, c, rfl, ⟨vs, ho⟩, hb2⟩
    go_wp2_with fail
    go_loopw [6, 8] (fun m j wr => ∃ i : Nat, i ≤ R.length ∧ j = .int .i64 i ∧ m = .int .i64 (cntTo R i : Nat) ∧ OwnL wr w.heap.size A R.length c vs R ∧ Below w.heap.size w wr) (fun _ j _ => R.length - (intOf j).toNat)
    case atStart => exact ⟨0, Nat.zero_le _, rfl, rfl, ho, hb2⟩
    case round =>
      clear ho hb2
      obtain ⟨i, hi, rfl, rfl, ho, hbl⟩ := hrel
      have hcb := cntTo_le R i
      by_cases hli : i < R.length
      · obtain ⟨g, A3, c3, rfl, hcg, hro⟩ := ho.at_ hli
        have hgl : g < wr.heap.size := World.block_lt_of_cell? _ _ hcg
        have hm := row_mem hli
        have hC := l3Closes_any A3 (rowAt R i).length c3 (rowAt R i) wr hro.rd (by have := hrl _ hm; omega) (hsm _ hm)
        have HO := Lib.hid ho
        have hY := fun h => cntTo_yes hli h
        have hN := fun h => cntTo_no hli h
        have HH := Lib.hid (And.intro hY hN)
        generalize cntTo R i = y at *
        generalize rowAt R i = r at *
        generalize r.length = q at *
        clear ho hro hY hN hm
        cases hcl : closB r with
        | true =>
          have HE := Lib.hid (HH.out.1 hcl)
          rw [hcl] at hC
          clear hcl HH
          go_wp2_with fail
          refine hC.mono ?_
          rintro e w3 ⟨rfl, b3⟩
          go_wp2_with fail
          go_roundw
          case rel => exact ⟨i + 1, by omega, by go_num, by rw [HE.out]; go_num, HO.out.same b3, below_then hbl b3⟩
          case measure => simp [intOf]; omega
        | false =>
          have HE := Lib.hid (HH.out.2 hcl)
          rw [hcl] at hC
          clear hcl HH
          go_wp2_with fail
          refine hC.mono ?_
          rintro e w3 ⟨rfl, b3⟩
          go_wp2_with fail
          go_roundw
          case rel => exact ⟨i + 1, by omega, by go_num, by rw [HE.out], HO.out.same b3, below_then hbl b3⟩
          case measure => simp [intOf]; omega
      · obtain rfl : i = R.length := by omega
        clear ho
        go_wp2_with fail
        go_ret2
        exact ⟨ret_ibs HM.out.symm HB.out.symm, hbl⟩
  · rw [Bool.not_eq_true] at hb
    have HM := Lib.hid (rstM_no hb)
    have HB := Lib.hid hb
    clear hb
    go_enter Try.func31, Try.ntmps31
    go_wp2_with fail
    refine (l3Given_any _ _ _).mono ?_
    rintro e w1 ⟨rfl, rfl⟩
    rw [HB.out]
    go_wp2_with fail
    go_ret2
    exact ⟨ret_ibs HM.out.symm HB.out.symm, Below.refl _ _⟩

/-! The first of them -/
def fstB (n p : Int) : Bool := mayB n p && polB n.toNat p.toNat
def fstM (n p : Int) : List Int := if fstB n p then polL n.toNat p.toNat else []
theorem fst_yes {N P : Nat} {r : List Int} (h : mayB N P = true) (hf : polF N P = some r) : fstB N P = true ∧ fstM N P = r := by
  have e : fstB N P = true := by unfold fstB polB; rw [h, Int.toNat_natCast, Int.toNat_natCast, hf]; rfl
  refine ⟨e, ?_⟩
  unfold fstM polL
  rw [if_pos e, Int.toNat_natCast, Int.toNat_natCast, hf]; rfl
theorem fst_not {N P : Nat} (hf : polF N P = none) : fstB N P = false ∧ fstM N P = [] := by
  have e : fstB N P = false := by unfold fstB polB; rw [Int.toNat_natCast, Int.toNat_natCast, hf]; simp
  exact ⟨e, by unfold fstM; rw [e]; rfl⟩
theorem fst_no {n p : Int} (h : mayB n p = false) : fstB n p = false ∧ fstM n p = [] := by
  have e : fstB n p = false := by unfold fstB; rw [h]; rfl
  exact ⟨e, by unfold fstM; rw [e]; rfl⟩
theorem cnt_none {L : List (List Int)} {i : Nat} (h : cntTo L i = 0) : (L.take i).filter closB = [] := List.eq_nil_of_length_eq_zero h
theorem head_hit {L : List (List Int)} {i : Nat} (hi : i < L.length) (h : cntTo L i = 0) (hc : closB (rowAt L i) = true) : (L.filter closB).head? = some (rowAt L i) := by
  have e : L = L.take (i + 1) ++ L.drop (i + 1) := (List.take_append_drop _ _).symm
  rw [e, List.filter_append, take_row1 hi, List.filter_append, cnt_none h]
  have e2 : rowAt (L.take i ++ [rowAt L i] ++ L.drop (i + 1)) i = rowAt L i := by rw [← take_row1 hi, List.take_append_drop]
  rw [e2]
  simp only [List.filter_cons, hc, if_true, List.filter_nil, List.nil_append, List.cons_append, List.head?_cons]
theorem ret_lbs {A : Option Addr} {n c : Nat} {a b : Bool} (h : b = a) : Ending.returned (.tuple #[.slice A n c, .bool a]) = .returned (.tuple #[.slice A n c, .bool b]) := by rw [h]

set_option maxRecDepth 100000 in
set_option maxHeartbeats 2000000 in
theorem specPolyFirst_any (n p : Int) (w : World) : Calls Try.prog 39 #[.int .i64 n, .int .i64 p] w fun e w' => ∃ A' n' c', e = .returned (.tuple #[.slice A' n' c', .bool (fstB n p)]) ∧ Rd w' A' n' (fstM n p) ∧ n' ≤ 1048576 ∧ Below w.heap.size w w' := by
  by_cases hb : mayB n p = true
  · obtain ⟨N, P, rfl, rfl, h3, h4, h5, h6⟩ := mayB_true hb
    have HB := Lib.hid hb
    have hq := l3Lists_any N P 1 N P 1 w rfl rfl rfl h4 h6 (by omega) (by omega)
    have hlen := lst_bd N P 1 h6
    have hpw := pow_seven h4
    have hsm : ∀ r ∈ lst N P 1, Small 1000000 r := fun r hr => lst_small h6 hr
    have hR : (lst N P 1).length ≤ 1073741824 := by omega
    have hrl : ∀ r ∈ lst N P 1, r.length ≤ 6 := fun r hr => by rw [lst_len _ _ _ r hr]; exact h4
    have hY : ∀ r, ((lst N P 1).filter closB).head? = some r → fstB N P = true ∧ fstM N P = r := fun r hr => fst_yes hb hr
    have hN : (lst N P 1).filter closB = [] → fstB N P = false ∧ fstM N P = [] := fun h => fst_not (by unfold polF; rw [h]; rfl)
    generalize lst N P 1 = R at *
    have HY := Lib.hid hY
    have HN := Lib.hid hN
    clear hb hlen hpw hY hN
    go_enter Try.func39, Try.ntmps39
    go_wp2_with fail
    refine (l3Given_any _ _ _).mono ?_
    rintro e w1 ⟨rfl, rfl⟩
    rw [HB.out]
    go_wp2_with fail
    refine hq.mono ?_
    rintro e w2 ⟨A, c, rfl, ⟨vs, ho⟩, hb2⟩
    go_wp2_with fail
    go_loopw [7] (fun j wr => ∃ i : Nat, i ≤ R.length ∧ j = .int .i64 i ∧ cntTo R i = 0 ∧ OwnL wr w.heap.size A R.length c vs R ∧ Below w.heap.size w wr) (fun j _ => R.length - (intOf j).toNat)
    case atStart => exact ⟨0, Nat.zero_le _, rfl, rfl, ho, hb2⟩
    case round =>
      clear ho hb2
      obtain ⟨i, hi, rfl, hc0, ho, hbl⟩ := hrel
      have H0 := Lib.hid hc0
      clear hc0
      by_cases hli : i < R.length
      · obtain ⟨g, A3, c3, rfl, hcg, hro⟩ := ho.at_ hli
        have hgl : g < wr.heap.size := World.block_lt_of_cell? _ _ hcg
        have hm := row_mem hli
        have hC := l3Closes_any A3 (rowAt R i).length c3 (rowAt R i) wr hro.rd (by have := hrl _ hm; omega) (hsm _ hm)
        have HO := Lib.hid ho
        have HRO := Lib.hid hro.rd
        have hq6 := hrl _ hm
        have HH := Lib.hid (And.intro (fun h => head_hit hli H0.out h) (fun h => (cntTo_no hli h).trans H0.out))
        generalize rowAt R i = r at *
        obtain ⟨q, eq⟩ : ∃ q, q = r.length := ⟨_, rfl⟩
        rw [← eq] at hcg hC HRO hq6
        clear ho hro hm eq
        cases hcl : closB r with
        | true =>
          obtain ⟨e1, e2⟩ := HY.out _ (HH.out.1 hcl)
          have E1 := Lib.hid e1
          have E2 := Lib.hid e2
          rw [hcl] at hC
          clear hcl HH e1 e2
          go_wp2_with fail
          refine hC.mono ?_
          rintro e w3 ⟨rfl, b3⟩
          have hcg3 := (b3.cell (p := ⟨g, i, none⟩) hgl).trans hcg
          go_wp2_with fail
          refine bodyPost_ret (results_tmp2 rfl _ _ _) rfl ?_
          exact ⟨A3, q, c3, ret_lbs E1.out, by rw [E2.out]; exact HRO.out.same b3, by omega, below_then hbl b3⟩
        | false =>
          have HE := Lib.hid (HH.out.2 hcl)
          rw [hcl] at hC
          clear hcl HH
          go_wp2_with fail
          refine hC.mono ?_
          rintro e w3 ⟨rfl, b3⟩
          go_wp2_with fail
          go_roundw
          case rel => exact ⟨i + 1, by omega, by go_num, HE.out, HO.out.same b3, below_then hbl b3⟩
          case measure => simp [intOf]; omega
      · obtain rfl : i = R.length := by omega
        have hn := cnt_none H0.out
        rw [List.take_length] at hn
        obtain ⟨e1, e2⟩ := HN.out hn
        have E1 := Lib.hid e1
        have E2 := Lib.hid e2
        clear ho hn e1 e2
        go_wp2_with fail
        refine bodyPost_ret (results_tmp2 rfl _ _ _) rfl ?_
        exact ⟨_, 0, 0, ret_lbs E1.out, by rw [E2.out]; exact Rd.nil_ _ _, by omega, below_alloc hbl _⟩
  · rw [Bool.not_eq_true] at hb
    have HM := Lib.hid (fst_no hb)
    have HB := Lib.hid hb
    clear hb
    go_enter Try.func39, Try.ntmps39
    go_wp2_with fail
    refine (l3Given_any _ _ _).mono ?_
    rintro e w1 ⟨rfl, rfl⟩
    rw [HB.out]
    go_wp2_with fail
    refine bodyPost_ret (results_tmp2 rfl _ _ _) rfl ?_
    exact ⟨_, 0, 0, ret_lbs HM.out.1, by rw [HM.out.2]; exact Rd.nil_ _ _, by omega, below_alloc (Below.refl _ _) _⟩
end Go.Proofs.Ytliplbifgldjeaa
