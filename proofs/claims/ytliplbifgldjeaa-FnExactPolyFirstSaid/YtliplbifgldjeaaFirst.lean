/- firstClosing and PolyFirst of the program. -/
import Derived.Test.YtliplbifgldjeaaSort
import Derived.Test.YtliplbifgldjeaaTry
import Derived.Test.YtliplbifgldjeaaLst3
namespace Go.Proofs.Ytliplbifgldjeaa
open Go.RowKit

/-- The call's own variable m. -/
structure BoxF (w : World) (b0 : Nat) (q p l : Int) : Prop where
  c0 : w.cell? ⟨b0, 0, none⟩ = some (.int .i64 q)
  c1 : w.cell? ⟨b0, 1, none⟩ = some (.int .i64 p)
  c2 : w.cell? ⟨b0, 2, none⟩ = some (.int .i64 l)
theorem BoxF.same {w w' : World} {b0 : Nat} {q p l : Int} (h : BoxF w b0 q p l) (hb : Below w.heap.size w w') : BoxF w' b0 q p l := by
  have hl : b0 < w.heap.size := World.block_lt_of_cell? _ _ h.c0
  exact ⟨(hb.cell (p := ⟨b0, 0, none⟩) hl).trans h.c0, (hb.cell (p := ⟨b0, 1, none⟩) hl).trans h.c1, (hb.cell (p := ⟨b0, 2, none⟩) hl).trans h.c2⟩
theorem BoxF.made (w : World) (q p l : Int) : BoxF (w.alloc (.cells #[.int .i64 q, .int .i64 p, .int .i64 l] 57)) w.heap.size q p l := by
  have hb := World.alloc_heap_new w (.cells #[.int .i64 q, .int .i64 p, .int .i64 l] 57)
  refine ⟨?_, ?_, ?_⟩
  · rw [cell_of_row _ _ 0 _ _ _ hb]; rfl
  · rw [cell_of_row _ _ 1 _ _ _ hb]; rfl
  · rw [cell_of_row _ _ 2 _ _ _ hb]; rfl

theorem BoxF.dr {w : World} {b0 : Nat} {q p l : Int} (h : BoxF w b0 q p l) : BoxF w.drew b0 q p l := ⟨h.c0, h.c1, h.c2⟩
/-- The bundle found is the call's own. -/
def Got (B : Nat) (w' : World) (A' : Option Addr) (n' c' : Nat) (o : Option (List Int)) : Prop := ∀ r, o = some r → n' = r.length ∧ Own w' B A' n' c' r
/-- What a search leaves: the first bundle, the call's own, or none. -/
def FirstC (B : Nat) (w : World) (o : Option (List Int)) (e : Ending) (w' : World) : Prop :=
  ∃ A' n' c', e = .returned (.tuple #[.slice A' n' c', .bool o.isSome]) ∧ Got B w' A' n' c' o ∧ Below w.heap.size w w'

theorem upto_small {xs : List Int} {x : Int} (h : Upto xs x) (hx : x ≤ 60) : Small 1000000 xs := fun j hj => by have := h.bd hx j hj; omega
theorem fst_zero {xs : List Int} {P X : Nat} : fst 0 xs P X = if decide (P = 0) && closB xs then some xs else none := rfl

set_option maxRecDepth 100000 in
set_option maxHeartbeats 4000000 in
theorem firstClosing_any : ∀ (s P X B n c : Nat) (A : Option Addr) (xs : List Int) (q p l : Int) (w : World), q = s → p = P → l = X → s ≤ 6 → P ≤ 30 → 1 ≤ X → X ≤ 31 → Own w B A n c xs → B ≤ w.heap.size → n + s ≤ 9 → Upto xs l →
    Calls Try.prog 76 #[.slice A n c, .agg #[.int .i64 q, .int .i64 p, .int .i64 l]] w (FirstC B w (fst s xs P X))
  | 0, P, X, B, n, c, A, xs, q, p, l, w, h1, h2, h3, h4, h5, h6, h7, ho, hB, hn, hu => by
    have d1 : (q == 0) = true := by simp; omega
    have hl60 : l ≤ 60 := by omega
    have hC := implCloses_any A n c xs (w.alloc (.cells #[.int .i64 q, .int .i64 p, .int .i64 l] 57)) (ho.rd.al _) (by omega) (upto_small hu hl60)
    have hlen := ho.len
    have HO := Lib.hid (ho.al (.cells #[.int .i64 q, .int .i64 p, .int .i64 l] 57))
    by_cases hp : P = 0
    · have d2 : (p == 0) = true := by simp; omega
      have HF := Lib.hid (show fst 0 xs P X = if closB xs then some xs else none by rw [fst_zero, decide_eq_true hp, Bool.true_and])
      clear h1 h2 h3 ho hp hu
      go_enter Try.func76, Try.ntmps76
      go_wp2_with fail
      refine hC.mono ?_
      rintro e w1 ⟨rfl, b1⟩
      go_wp2_with fail
      refine bodyPost_ret (results_tmp2 rfl _ _ _) rfl ?_
      refine ⟨A, n, c, ?_, fun r hr => ?_, below_then (below_alloc (Below.refl _ _) _) b1⟩
      · rw [HF.out]; cases closB xs <;> rfl
      · rw [HF.out] at hr
        split at hr
        · obtain rfl : xs = r := by simpa using hr
          exact ⟨hlen.symm, HO.out.same b1⟩
        · cases hr
    · have d2 : (p == 0) = false := by simp; omega
      have HF := Lib.hid (show fst 0 xs P X = none by rw [fst_zero, decide_eq_false hp]; rfl)
      clear h1 h2 h3 ho hp hu
      go_enter Try.func76, Try.ntmps76
      go_wp2_with fail
      refine bodyPost_ret (results_tmp2 rfl _ _ _) rfl ?_
      exact ⟨A, n, c, by rw [HF.out]; rfl, fun r hr => (by rw [HF.out] at hr; cases hr), below_alloc (Below.refl _ _) _⟩
  | s + 1, P, X, B, n, c, A, xs, q, p, l, w, h1, h2, h3, h4, h5, h6, h7, ho, hB, hn, hu => by
    have IH := Lib.hid (firstClosing_any s)
    have d1 : (q == 0) = false := by simp; omega
    have hF : fst (s + 1) xs P X = firstTo (fun k => fst s (xs ++ [((X + k : Nat) : Int)]) (P - (X + k)) (X + k)) (P / (s + 1) + 1 - X) := rfl
    have hdv : P / (s + 1) ≤ P := Nat.div_le_self _ _
    obtain ⟨K, hK⟩ : ∃ K, K = P / (s + 1) + 1 - X := ⟨_, rfl⟩
    rw [← hK] at hF
    have HF := Lib.hid hF
    have hK31 : K ≤ 31 := by omega
    have H1 := Lib.hid h1
    have H2 := Lib.hid h2
    have H3 := Lib.hid h3
    have HK := Lib.hid hK
    have HU := Lib.hid hu
    have n1 : 1 ≤ q ∧ q ≤ 6 := by omega
    have p1 : 0 ≤ p ∧ p ≤ 30 := by omega
    have l1 : 1 ≤ l ∧ l ≤ 31 := by omega
    have hA := ho.nilA
    have hlen := ho.len
    have hrd0 := ho.rd
    have HBX := Lib.hid (BoxF.made w q p l)
    have HB0 := Lib.hid (below_alloc (Below.refl w.heap.size w) (.cells #[.int .i64 q, .int .i64 p, .int .i64 l] 57))
    clear h1 h2 h3 hK hdv hF hu ho
    go_enter Try.func76, Try.ntmps76
    go_wp2_with fail
    go_loopw [6, 7, 8] (fun x _ _ wr => ∃ k : Nat, k ≤ K ∧ x = .int .i64 (l + k) ∧ firstTo (fun k => fst s (xs ++ [((X + k : Nat) : Int)]) (P - (X + k)) (X + k)) k = none ∧ BoxF wr w.heap.size q p l ∧ Below w.heap.size w wr) (fun x _ _ _ => (100 - intOf x).toNat)
    case atStart => exact ⟨0, Nat.zero_le _, by simp, rfl, HBX.out, HB0.out⟩
    case round =>
      clear HBX HB0
      obtain ⟨k, hk, rfl, hno, hbx, hbl⟩ := hrel
      have HNO := Lib.hid hno
      have HBX := Lib.hid hbx
      have cb0 := hbx.c0
      have cb1 := hbx.c1
      clear hno hbx
      have hmb := mul_box (l := l) (n := q) (k := k) l1.1 (by omega) (by omega) n1.2
      have hrl := mul_rel (k := k) H3.out H1.out H2.out
      have v1 : IntKind.i64.wrap ((l + k) * q) = (l + k) * q := wrap_is rfl (by omega) (by omega)
      rw [← HK.out] at hrl
      by_cases hlt : (l + (k : Int)) * q ≤ p
      · have d2 : decide ((l + (k : Int)) * q ≤ p) = true := by simpa using hlt
        have hkK := hrl.1 hlt
        have hxk : ((X + k : Nat) : Int) = l + k := by have := H3.out; omega
        have hXk : X + k ≤ P := by have := HK.out; have := Nat.div_le_self P (s + 1); omega
        have hfk : firstTo (fun k => fst s (xs ++ [((X + k : Nat) : Int)]) (P - (X + k)) (X + k)) k = none := HNO.out
        obtain ⟨o, eo⟩ : ∃ o, o = fst s (xs ++ [l + (k : Int)]) (P - (X + k)) (X + k) := ⟨_, rfl⟩
        have eo2 : (fun k => fst s (xs ++ [((X + k : Nat) : Int)]) (P - (X + k)) (X + k)) k = o := by rw [eo]; show fst s (xs ++ [((X + k : Nat) : Int)]) _ _ = _; rw [hxk]
        have HHIT := Lib.hid (show ∀ r, o = some r → fst (s + 1) xs P X = some r from fun r hr => by rw [HF.out]; exact firstTo_hit hfk (eo2.trans hr) K hkK)
        have HGO := Lib.hid (show o = none → firstTo (fun k => fst s (xs ++ [((X + k : Nat) : Int)]) (P - (X + k)) (X + k)) (k + 1) = none from fun hr => firstTo_none hfk (eo2.trans hr))
        have v2 : IntKind.i64.wrap (q - 1) = q - 1 := wrap_is rfl (by omega) (by omega)
        have v3 : IntKind.i64.wrap (p - (l + k)) = p - (l + k) := wrap_is rfl (by omega) (by omega)
        have hup := HU.out.snoc (y := l + (k : Int)) (by omega)
        have hso := HU.out.sort (y := l + (k : Int)) (by omega)
        have hW : ∀ W, Rd W A n xs → Calls Try.prog 65 #[.slice A n c, .int .i64 (l + (k : Int))] W fun e w' => ∃ A' c', e = .returned (.slice A' (n + 1) c') ∧ Own w' W.heap.size A' (n + 1) c' (xs ++ [l + (k : Int)]) ∧ Below W.heap.size W w' := fun W hW => by
          have := with_any A n c xs (l + (k : Int)) W hW (by omega) hA
          rw [hso] at this
          exact this
        have hrw := hrd0.below (Nat.le_refl _) hbl
        have hI : ∀ (A2 : Option Addr) (c2 : Nat) (w2 : World), Own w2 B A2 (n + 1) c2 (xs ++ [l + (k : Int)]) → B ≤ w2.heap.size → Calls Try.prog 76 #[.slice A2 (n + 1) c2, .agg #[.int .i64 (q - 1), .int .i64 (p - (l + k)), .int .i64 (l + k)]] w2 (FirstC B w2 o) := fun A2 c2 w2 h1 h2 => by
          rw [eo]
          exact IH.out (P - (X + k)) (X + k) B (n + 1) c2 A2 (xs ++ [l + (k : Int)]) (q - 1) (p - (l + k)) (l + k) w2 (by have := H1.out; omega) (by have := H2.out; omega) (by omega) (by omega) (by omega) (by omega) (by omega) h1 h2 (by omega) hup
        have hsz := Nat.le_trans hB hbl.size
        have hbw : w.heap.size < wr.heap.size := World.block_lt_of_cell? _ _ cb0
        clear hlt hrl hmb hxk hXk hfk eo eo2 hso hup
        cases o with
        | none =>
          have HG := Lib.hid (HGO.out rfl)
          clear HGO HHIT
          go_wp2_with fail
          go_region_held3 (fun w' => w'.cell? ⟨w.heap.size, 0, none⟩ = some (.int .i64 q) ∧ w'.cell? ⟨w.heap.size, 1, none⟩ = some (.int .i64 p))
            (first | go_keep | (exact ⟨(b3.cell (p := ⟨w.heap.size, 0, none⟩) (Nat.lt_of_lt_of_le hbw b2.size)).trans ((b2.cell (p := ⟨w.heap.size, 0, none⟩) hbw).trans cb0), (b3.cell (p := ⟨w.heap.size, 1, none⟩) (Nat.lt_of_lt_of_le hbw b2.size)).trans ((b2.cell (p := ⟨w.heap.size, 1, none⟩) hbw).trans cb1)⟩) | (exact ⟨(b2.cell (p := ⟨w.heap.size, 0, none⟩) hbw).trans cb0, (b2.cell (p := ⟨w.heap.size, 1, none⟩) hbw).trans cb1⟩))
            (first
              | (go_at_call 65; refine (hW _ ?_).mono ?_; (· first | exact hrw | exact hrw.dr); rintro e w2 ⟨A2, c2, rfl, o2, b2⟩)
              | (go_at_call 76; refine (hI A2 c2 _ ?_ ?_).mono ?_; (· exact o2.lower hsz); (· exact Nat.le_trans hsz b2.size); rintro e w3 ⟨A3, n3, c3, rfl, h3, b3⟩))
          have hbl3 : Below w.heap.size w w3 := below_then (below_then hbl.drew b2) b3
          have hbx3 := Lib.hid ((HBX.out.dr.same b2).same b3)
          clear o2 b2 b3 h3 hbl hI hW
          go_wp2_with fail
          go_roundw
          case rel => exact ⟨k + 1, by omega, by go_num, HG.out, hbx3.out, hbl3⟩
          case measure => simp [intOf]; omega
        | some r =>
          have HH := Lib.hid (HHIT.out r rfl)
          clear HGO HHIT
          go_wp2_with fail
          go_region_held3 (fun w' => w'.cell? ⟨w.heap.size, 0, none⟩ = some (.int .i64 q) ∧ w'.cell? ⟨w.heap.size, 1, none⟩ = some (.int .i64 p))
            (first | go_keep | (exact ⟨(b3.cell (p := ⟨w.heap.size, 0, none⟩) (Nat.lt_of_lt_of_le hbw b2.size)).trans ((b2.cell (p := ⟨w.heap.size, 0, none⟩) hbw).trans cb0), (b3.cell (p := ⟨w.heap.size, 1, none⟩) (Nat.lt_of_lt_of_le hbw b2.size)).trans ((b2.cell (p := ⟨w.heap.size, 1, none⟩) hbw).trans cb1)⟩) | (exact ⟨(b2.cell (p := ⟨w.heap.size, 0, none⟩) hbw).trans cb0, (b2.cell (p := ⟨w.heap.size, 1, none⟩) hbw).trans cb1⟩))
            (first
              | (go_at_call 65; refine (hW _ ?_).mono ?_; (· first | exact hrw | exact hrw.dr); rintro e w2 ⟨A2, c2, rfl, o2, b2⟩)
              | (go_at_call 76; refine (hI A2 c2 _ ?_ ?_).mono ?_; (· exact o2.lower hsz); (· exact Nat.le_trans hsz b2.size); rintro e w3 ⟨A3, n3, c3, rfl, h3, b3⟩))
          have hbl3 : Below w.heap.size w w3 := below_then (below_then hbl.drew b2) b3
          have hr3 := Lib.hid (h3 r rfl)
          clear o2 b2 b3 h3 hbl hI hW
          go_wp2_with fail
          refine bodyPost_ret (results_tmp2 rfl _ _ _) rfl ?_
          exact ⟨A3, n3, c3, by rw [HH.out]; rfl, fun r' hr' => (by rw [HH.out] at hr'; cases hr'; exact hr3.out), hbl3⟩
      · have d2 : decide ((l + (k : Int)) * q ≤ p) = false := by simpa using hlt
        have hkK : k = K := by have := mt hrl.2 hlt; omega
        have HN := Lib.hid (show fst (s + 1) xs P X = none by rw [HF.out, ← hkK]; exact HNO.out)
        clear hlt hrl hmb hkK
        go_wp2_with fail
        refine bodyPost_ret (results_tmp2 rfl _ _ _) rfl ?_
        exact ⟨none, 0, 0, by rw [HN.out]; rfl, fun r hr => (by rw [HN.out] at hr; cases hr), hbl⟩


set_option maxRecDepth 100000 in
set_option maxHeartbeats 2000000 in
theorem implPolyFirst_any (n p : Int) (w : World) : Calls Try.prog 38 #[.int .i64 n, .int .i64 p] w fun e w' => ∃ A' n' c', e = .returned (.tuple #[.slice A' n' c', .bool (fstB n p)]) ∧ Own w' w.heap.size A' n' c' (fstM n p) ∧ n' ≤ 1048576 ∧ Below w.heap.size w w' := by
  by_cases hb : mayB n p = true
  · obtain ⟨N, P, rfl, rfl, h3, h4, h5, h6⟩ := mayB_true hb
    have HB := Lib.hid hb
    have hl := Own.lit w (Nat.le_refl _) [] (by simp)
    have hq := firstClosing_any N P 1 w.heap.size 0 0 _ [] N P 1 _ rfl rfl rfl h4 h6 (by omega) (by omega) hl (by simp) (by omega) upto_nil
    rw [← polF_is] at hq
    have hY : ∀ r, polF N P = some r → (fstB N P = true ∧ fstM N P = r) ∧ r.length = N := fun r hr => ⟨fst_yes hb hr, (first_is h3 h4 h6 hr).1⟩
    have hN : polF N P = none → fstB N P = false ∧ fstM N P = [] := fst_not
    have HY := Lib.hid hY
    have HN := Lib.hid hN
    generalize polF N P = o at *
    clear hb hY hN
    cases o with
    | none =>
      obtain ⟨e1, e2⟩ := HN.out rfl
      have E1 := Lib.hid e1
      have E2 := Lib.hid e2
      clear e1 e2 HN HY
      go_enter Try.func38, Try.ntmps38
      go_wp2_with fail
      refine (implMay_any _ _ _).mono ?_
      rintro e w1 ⟨rfl, rfl⟩
      rw [HB.out]
      go_wp2_with fail
      refine hq.mono ?_
      rintro e w2 ⟨A2, n2, c2, rfl, _, b2⟩
      have hb3 := below_then (below_alloc (Below.refl w.heap.size w) (.cells #[] 3)) b2
      have hl2 := Own.lit w2 (B := w.heap.size) hb3.size [] (by simp)
      go_wp2_with fail
      refine bodyPost_ret (results_tmp2 rfl _ _ _) rfl ?_
      exact ⟨_, 0, 0, ret_lbs E1.out, by rw [E2.out]; exact hl2, by omega, below_alloc hb3 _⟩
    | some r =>
      obtain ⟨⟨e1, e2⟩, e3⟩ := HY.out r rfl
      have E1 := Lib.hid e1
      have E2 := Lib.hid e2
      have E3 := Lib.hid e3
      clear e1 e2 e3 HN HY
      go_enter Try.func38, Try.ntmps38
      go_wp2_with fail
      refine (implMay_any _ _ _).mono ?_
      rintro e w1 ⟨rfl, rfl⟩
      rw [HB.out]
      go_wp2_with fail
      refine hq.mono ?_
      rintro e w2 ⟨A2, n2, c2, rfl, hg, b2⟩
      have HG := Lib.hid (hg r rfl)
      have hb3 := below_then (below_alloc (Below.refl w.heap.size w) (.cells #[] 3)) b2
      clear hg
      go_wp2_with fail
      refine bodyPost_ret (results_tmp2 rfl _ _ _) rfl ?_
      exact ⟨A2, n2, c2, ret_lbs E1.out, by rw [E2.out]; exact HG.out.2, by rw [HG.out.1, E3.out]; omega, hb3⟩
  · rw [Bool.not_eq_true] at hb
    have HM := Lib.hid (fst_no hb)
    have HB := Lib.hid hb
    have hl := Own.lit w (Nat.le_refl _) [] (by simp)
    clear hb
    go_enter Try.func38, Try.ntmps38
    go_wp2_with fail
    refine (implMay_any _ _ _).mono ?_
    rintro e w1 ⟨rfl, rfl⟩
    rw [HB.out]
    go_wp2_with fail
    refine bodyPost_ret (results_tmp2 rfl _ _ _) rfl ?_
    exact ⟨_, 0, 0, ret_lbs HM.out.1, by rw [HM.out.2]; exact hl, by omega, below_alloc (Below.refl _ _) _⟩
end Go.Proofs.Ytliplbifgldjeaa
