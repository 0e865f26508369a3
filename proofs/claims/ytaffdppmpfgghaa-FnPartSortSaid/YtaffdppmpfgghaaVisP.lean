/- The program's way through the part lists of a bundle: visitParts. -/
import Derived.Test.YtaffdppmpfgghaaRept
namespace Go.Proofs.Ytaffdppmpfgghaa
open Go.RowKit Go.Sort Go.Lib

set_option maxRecDepth 100000 in
set_option maxHeartbeats 4000000 in
theorem visitParts_any {σ : Type} (w0 : World) (B bx : Nat) (J : σ → World → Prop) (acc : σ → List Int → σ) (s : σ) (fid : FuncId) (caps : Array Value) (b off n c : Nat) (zs : List Int) (w : World) (h : Rd w (some ⟨b, off, none⟩) n zs) (hn1 : 1 ≤ n) (hn9 : n ≤ 9) (hz : ∀ j, j < n → 1 ≤ zs.getD j 0 ∧ zs.getD j 0 ≤ 60)
    (hJ : ∀ s W W', J s W → ∀ row, W.grownBy W' row → (∀ r, row = some r → w.heap.size ≤ r) → J s W') (hbx : B ≤ bx ∧ bx < w.heap.size) (hB : B ≤ w.heap.size) (hbel : Below B w0 w) (hj : J s w)
    (hv : ∀ l s W b off c, (∃ m, PL (cloQ zs) n l m) → Rd W (some ⟨b, off, none⟩) n l → J s W → Calls Try.prog fid (#[.slice (some ⟨b, off, none⟩) n c] ++ caps) W fun e w' => e = .returned (.tuple #[]) ∧ J (acc s l) w' ∧ W.grownBy w' (some bx))
    (he : ∀ args w, (callFunc fid args).run Try.prog w = .ok (.enter fid args) w) :
    Calls Try.prog 113 #[.slice (some ⟨b, off, none⟩) n c, .func (.func fid) #[] caps] w fun e w' => e = .returned (.tuple #[]) ∧ J ((visP 0 (noP n) (triP (cloQ zs) n)).foldl acc s) w' ∧ Below B w0 w' := by
  have HR := Lib.hid h
  have HZ := Lib.hid hz
  have HJ := Lib.hid hJ
  have HV := Lib.hid hv
  have HBL := Lib.hid hbel
  have HJ0 := Lib.hid hj
  obtain ⟨i0, hi, hz0, hz1, hz2⟩ := info_parts intInfo
  obtain ⟨tot, htot⟩ : ∃ tot, tot = n * (n / 3) := ⟨_, rfl⟩
  obtain ⟨d, hd⟩ : ∃ d, d = n / 3 := ⟨_, rfl⟩
  have hq1 : Int.tdiv (n : Int) 3 = (d : Int) := by rw [hd]; rfl
  have hq2 : (n : Int) / 3 = (d : Int) := by omega
  have ht9 : tot ≤ 1000 := by rw [htot]; exact Nat.le_trans (Nat.mul_le_mul hn9 (show n / 3 ≤ 3 by omega)) (by decide)
  have hq4 : (n : Int) * (d : Int) = (tot : Int) := by rw [htot, hd]; simp
  have hq3 : IntKind.i64.wrap ((n : Int) * (d : Int)) = (tot : Int) := wrap_is hq4 (by omega) (by omega)
  have hd9 : d ≤ 9 := by omega
  have HT := Lib.hid htot
  have hc0 : (w.alloc (.cells #[.int .i64 (-1)] 3)).cell? ⟨w.heap.size, 0, none⟩ = some (.int .i64 (-1)) := by rw [cell_of_row _ _ 0 _ _ _ (World.alloc_heap_new w _)]; rfl
  have HRP := Lib.hid (repeat_any w.heap.size 1 n hn1 hn9 _ hc0)
  clear h hz hJ hv hbel hj htot hc0 hd
  go_enter Try.func113, Try.ntmps113
  go_wp2_with fail
  refine HRP.out.mono ?_
  rintro e w2 ⟨⟨g0, rfl, o0⟩, b2⟩
  have HO0 := Lib.hid o0
  have hb2 : Below w.heap.size w w2 := below_then (below_alloc (Below.refl _ _) _) b2
  have HB2 := Lib.hid hb2
  have hs2 := hb2.size
  clear o0 b2 hb2
  go_wp2_with (at_make; refine wpList_make_full _ rfl _ _ 23 rfl w2.heap.size 3 i0 (.int .i64 0) 1 Try.underlying23 hi hz0 hz1 _ _ _ _ tot rfl rfl rfl rfl (by rw [hz2]; omega) (by unfold maxLen; omega) (Nat.le_refl _) ?_; intro w3 hown hg3)
  have ze : (madeCells (Value.int .i64 0).cells (tot * 1)).toList = ints (List.replicate tot 0) := by
    rw [show (Value.int .i64 0).cells = #[.int .i64 0] from rfl, toList_madeCells_one]; simp
  rw [ze] at hown
  have hb3 : Below w2.heap.size w2 w3 := below_row hg3 (Nat.le_refl _) (fun k e => by cases e)
  have HB3 := Lib.hid (below_then HB2.out hb3)
  have HO3 := Lib.hid (show Own w3 w2.heap.size (some ⟨w2.heap.size, 0, none⟩) tot tot (List.replicate tot 0) from hown)
  have HO03 := Lib.hid (HO0.out.same hb3)
  have hs3 := hb3.size
  clear ze hown hg3 hb3
  refine (closing_any _ _ _ _).mono ?_
  rintro e w4 ⟨rfl, rfl⟩
  have hb4 : Below w3.heap.size w3 (w3.alloc (.cells #[.slice (some ⟨b, off, none⟩) n c] 45)) := below_alloc (Below.refl _ _) _
  have hBs : (w3.alloc (.cells #[.slice (some ⟨b, off, none⟩) n c] 45)).cell? ⟨w3.heap.size, 0, none⟩ = some (.slice (some ⟨b, off, none⟩) n c) := by rw [cell_of_row _ _ 0 _ _ _ (World.alloc_heap_new w3 _)]; rfl
  have hcz : ∀ j, j < n → (w3.alloc (.cells #[.slice (some ⟨b, off, none⟩) n c] 45)).cell? ⟨b, off + j, none⟩ = some (.int .i64 (zs.getD j 0)) := by
    obtain ⟨b', off', e, _, hc⟩ := ((HR.out.same HB3.out).same hb4).2 (by omega)
    simp only [Option.some.injEq, Addr.mk.injEq, and_true] at e
    obtain ⟨rfl, rfl⟩ := e
    exact hc
  have HCL := Lib.hid (collect_any w3.heap.size b off n c zs hn1 hn9 HR.out.1 HZ.out _ hBs hcz)
  clear hBs hcz
  obtain ⟨w4, hw4⟩ : ∃ w4, w3.alloc (.cells #[.slice (some ⟨b, off, none⟩) n c] 45) = w4 := ⟨_, rfl⟩
  rw [hw4] at hb4 HCL ⊢
  have HB4 := Lib.hid (below_then HB3.out hb4)
  have HO4 := Lib.hid (HO3.out.same hb4)
  have HO04 := Lib.hid (HO03.out.same hb4)
  have hs4 := hb4.size
  clear hw4 hb4
  go_wp2_with fail
  refine HCL.out.mono ?_
  rintro e w5 ⟨⟨A, cT, rfl, oT⟩, b5⟩
  obtain ⟨Ts, eTs⟩ : ∃ Ts, Ts = triP (cloQ zs) n := ⟨_, rfl⟩
  rw [← eTs] at oT ⊢
  obtain ⟨bt, hbt⟩ : ∃ bt, 0 < Ts.length → A = some ⟨bt, 0, none⟩ := by
    by_cases h0 : 0 < Ts.length
    · obtain ⟨g, e, _⟩ := oT.form h0
      exact ⟨g, fun _ => e⟩
    · exact ⟨0, fun h => absurd h h0⟩
  have hg0 := HO0.out.blk
  have hsz1 : (w.alloc (.cells #[.int .i64 (-1)] 3)).heap.size = w.heap.size + 1 := by simp
  rw [hsz1] at hg0
  have hb5 : Below w.heap.size w w5 := below_then HB4.out b5
  have hlen : Ts.length ≤ 1000 := by
    rw [eTs]
    refine Nat.le_trans (List.length_filter_le _ _) ?_
    have := q1_len n hn9 n
    unfold allQ
    omega
  have hcT : Ts.length ≤ cT ∧ cT ≤ 9223372036854775807 := by
    rcases oT.2 with ⟨e, e0⟩ | ⟨g, cap, cur, e, _, _, h1, h2, _⟩
    · injection e with _ e1 e2
      omega
    · injection e with _ _ e2
      unfold maxLen at h2
      omega
  have hI : VisI w0 B g0 n w2.heap.size tot bx bt cT n A Ts J (List.replicate tot 0) s w5 := by
    refine ⟨(HO04.out.same b5).lower (by omega), (HO4.out.same b5).lower (by omega), oT.lower (by omega), hbt, HJ.out s w w5 HJ0.out none (grown_of_below hb5) (fun r e => by cases e), HBL.out.trans (hb5.mono hB), ⟨by omega, by omega, by omega, fun e => ?_, fun e => ?_⟩, hbx.1⟩
    · have := (oT.row _ e).1
      omega
    · have := (oT.row _ e).1
      have := HO3.out.blk.2
      omega
  have HVF := visitFrom_any w0 B g0 n w2.heap.size tot bx bt cT n A Ts J acc (cloQ zs) fid caps hn1 hn9 HT.out hlen hcT.1 hcT.2 (fun s W W' hj row hg hr => HJ.out s W W' hj row hg (fun r e => by
      rcases hr with hr | hr
      · rw [hr] at e; cases e
      · rw [hr] at e; cases e; exact hs2)) HV.out he (Ts.length + 1) 0 (by omega) (by omega) 0 (noP n) (List.replicate tot 0) s w5 g0 0 n A (some ⟨w2.heap.size, 0, none⟩) (by rw [eTs, List.drop_zero]; exact noP_pv _ n) (.inl ⟨rfl, rfl, rfl, rfl⟩) (fun h => by rw [hbt h]) (fun _ => by rw [Nat.zero_mul]) hI
  rw [Nat.zero_mul, Nat.sub_zero, Nat.sub_zero, Nat.sub_zero, List.drop_zero] at HVF
  have HVF2 := Lib.hid HVF
  have ETS := Lib.hid eTs
  clear HVF hI hcT hlen hb5 hg0 oT b5 eTs hbt hsz1 hq1 hq2 hq3 hq4 hi hz0 hz1 hz2
  go_wp2_with fail
  refine HVF2.out.mono ?_
  rintro e w6 ⟨rfl, R6, h6, _⟩
  have H6 := Lib.hid h6
  clear h6
  go_wp2_with fail
  go_end0
  exact ⟨rfl, by rw [← ETS.out]; exact H6.out.st, H6.out.bel⟩
end Go.Proofs.Ytaffdppmpfgghaa
