/- Contracts of the program's functions of chapter 5: one stick laid; greedy foldings. -/
import Derived.Test.YtogmoljaiapolaaFoldI2
namespace Go.Proofs.Ytogmoljaiapolaa
open Go.RowKit Go.Sort

theorem eqRL : ((⟨#[114]⟩ : ByteArray) == ⟨#[108]⟩) = false := by decide
theorem eqLL : ((⟨#[108]⟩ : ByteArray) == ⟨#[108]⟩) = true := by decide

/-- The call's own blocks: the folding that came in, the answer. -/
structure LdB (w W : World) (s : ByteArray) (e l m : Int) : Prop where
  r : W.heap[w.heap.size]? = some (.cells (fldC s e l m) 45 (0, 0))
  an : W.heap[w.heap.size + 1]? = some (.cells (fldC ⟨#[]⟩ 0 0 0) 45 (0, 0))
  bel : Below w.heap.size w W
theorem LdB.made (w : World) (s : ByteArray) (e l m : Int) : LdB w ((w.alloc (.cells (fldC s e l m) 45)).alloc (.cells (fldC ⟨#[]⟩ 0 0 0) 45)) s e l m := by
  refine ⟨?_, ?_, below_alloc (below_alloc (Below.refl _ _) _) _⟩
  · exact (Below.heap_alloc _ _ _ (by simp)).trans (World.alloc_heap_new w _)
  · have := World.alloc_heap_new (w.alloc (.cells (fldC s e l m) 45)) (.cells (fldC ⟨#[]⟩ 0 0 0) 45)
    rw [World.size_alloc] at this
    exact this

theorem laid_end (w : World) (s : ByteArray) (e l m : Int) (s' : ByteArray) (e' l' m' : Int) :
    ((w.alloc (.cells (fldC s e l m) 45)).alloc (.cells (fldC s' e' l' m') 45)).heap[w.heap.size + 1]? = some (.cells (fldC s' e' l' m') 45 (0, 0)) := by
  have := World.alloc_heap_new (w.alloc (.cells (fldC s e l m) 45)) (.cells (fldC s' e' l' m') 45)
  rw [World.size_alloc] at this
  exact this

set_option maxRecDepth 100000 in
set_option maxHeartbeats 1000000 in
theorem laidR_any (s : ByteArray) (e l m x : Int) (w : World) (hs : s.size ≤ 1000) (he : -1000000 ≤ e ∧ e ≤ 1000000) (hx : -1000000 ≤ x ∧ x ≤ 1000000) :
    Calls Try.prog 72 #[fldV s e l m, .string ⟨#[114]⟩, .int .i64 x] w fun r w' => r = .returned (fldV (s ++ ⟨#[114]⟩) (e + x) (min l (e + x)) (max m (e + x))) ∧ Below w.heap.size w w' := by
  have h0 := LdB.made w s e l m
  obtain ⟨k0, k1, k2, k3, _⟩ := four_cells h0.r
  obtain ⟨z0, z1, z2, z3, zf⟩ := four_cells h0.an
  have f0 := zf 0
  have f1 := zf 1
  have f2 := zf 2
  have f3 := zf 3
  have v1 : IntKind.i64.wrap (e + x) = e + x := wrap_is rfl (by omega) (by omega)
  have v2 : IntKind.i64.wrap (e - x) = e - x := wrap_is rfl (by omega) (by omega)
  have d0 := eqRL
  clear zf h0
  go_enter Try.func72, Try.ntmps72
  go_wp2_with fail
  clear k0 k1 k2 k3 z0 z1 z2 z3 f0 f1 f2 f3
  obtain ⟨y0, y1, y2, y3, _⟩ := four_cells (laid_end w s e l m (s ++ ⟨#[114]⟩) (e + x) (min l (e + x)) (max m (e + x)))
  refine bodyPost_ret (v := fldV (s ++ ⟨#[114]⟩) (e + x) (min l (e + x)) (max m (e + x))) ?_ rfl ⟨rfl, below_alloc (below_alloc (Below.refl _ _) _) _⟩
  simp [results, Try.f72, go_sem, y0, y1, y2, y3]

set_option maxRecDepth 100000 in
set_option maxHeartbeats 1000000 in
theorem laidL_any (s : ByteArray) (e l m x : Int) (w : World) (hs : s.size ≤ 1000) (he : -1000000 ≤ e ∧ e ≤ 1000000) (hx : -1000000 ≤ x ∧ x ≤ 1000000) :
    Calls Try.prog 72 #[fldV s e l m, .string ⟨#[108]⟩, .int .i64 x] w fun r w' => r = .returned (fldV (s ++ ⟨#[108]⟩) (e - x) (min l (e - x)) (max m (e - x))) ∧ Below w.heap.size w w' := by
  have h0 := LdB.made w s e l m
  obtain ⟨k0, k1, k2, k3, _⟩ := four_cells h0.r
  obtain ⟨z0, z1, z2, z3, zf⟩ := four_cells h0.an
  have f0 := zf 0
  have f1 := zf 1
  have f2 := zf 2
  have f3 := zf 3
  have v1 : IntKind.i64.wrap (e + x) = e + x := wrap_is rfl (by omega) (by omega)
  have v2 : IntKind.i64.wrap (e - x) = e - x := wrap_is rfl (by omega) (by omega)
  have d0 := eqLL
  clear zf h0
  go_enter Try.func72, Try.ntmps72
  go_wp2_with fail
  clear k0 k1 k2 k3 z0 z1 z2 z3 f0 f1 f2 f3
  obtain ⟨y0, y1, y2, y3, _⟩ := four_cells (laid_end w s e l m (s ++ ⟨#[108]⟩) (e - x) (min l (e - x)) (max m (e - x)))
  refine bodyPost_ret (v := fldV (s ++ ⟨#[108]⟩) (e - x) (min l (e - x)) (max m (e - x))) ?_ rfl ⟨rfl, below_alloc (below_alloc (Below.refl _ _) _) _⟩
  simp [results, Try.f72, go_sem, y0, y1, y2, y3]

theorem size_snoc (s : ByteArray) (c : UInt8) : (s ++ (⟨#[c]⟩ : ByteArray)).size = s.size + 1 := by
  simp [ByteArray.size_append]; rfl

theorem grd_two (m : Int) {xs : List Int} (hx : ∀ j, j < xs.length → 1 ≤ xs.getD j 0 ∧ xs.getD j 0 ≤ 60) (hm : ∀ j, j < xs.length → xs.getD j 0 ≤ m) (hm60 : m ≤ 60) {k : Nat} (hk : k < xs.length) {a lo hi : Int} (h1 : -m < a) (h2 : a ≤ m) (h3 : -m < lo) (h4 : hi ≤ m) (h5 : lo ≤ 0) (h6 : 0 ≤ hi) :
    ∃ q l g, (a + xs.getD k 0 ≤ m ∧ q = a + xs.getD k 0 ∨ ¬ a + xs.getD k 0 ≤ m ∧ q = a - xs.getD k 0) ∧ min lo q = l ∧ max hi q = g ∧ grdT m (xs.drop k) (a, lo, hi) = grdT m (xs.drop (k + 1)) (q, l, g) ∧ -m < q ∧ q ≤ m ∧ -m < l ∧ g ≤ m ∧ l ≤ 0 ∧ 0 ≤ g := by
  obtain ⟨q, l, g, hq, hl, hg, hst, t⟩ := grd_one m hx hm hm60 hk h1 h2 h3 h4 h5 h6
  refine ⟨q, l, g, hq, ?_, ?_, hst, t⟩
  · rw [← hl]; split <;> omega
  · rw [← hg]; split <;> omega

set_option maxRecDepth 100000 in
set_option maxHeartbeats 2000000 in
theorem implFoldGreedy_any (A : Option Addr) (n c : Nat) (xs : List Int) (w : World) (h : Rd w A n xs) (hn : n ≤ 1048576) (hA : A = none → n = 0 ∧ c = 0) :
    Calls Try.prog 42 #[.slice A n c] w fun e w' => e = .returned (.tuple #[.int .i64 (grdM xs), .bool (rulB xs)]) ∧ Below w.heap.size w w' := by
  have hV := rvalid_any A n c xs w h hn hA
  clear hA
  by_cases hR : rulB xs = true
  · have HR := Lib.hid hR
    have hr := rulB_true hR
    have HL := Lib.hid h.1
    have hn9 : n ≤ 9 := by have := hr.2.1; have := h.1; omega
    have hM := fun W (h : Rd W A n xs) => rmax_any A n c xs W h hr
    have hbd := mxTo_bd hr.2.2 xs.length (Nat.le_refl _)
    have hge : ∀ j, j < xs.length → xs.getD j 0 ≤ mxL xs := fun j hj => mxTo_ge xs.length j hj
    have hm1 : 1 ≤ mxL xs := hbd.2.2 hr.1
    have hm60 : mxL xs ≤ 60 := hbd.2.1
    have HF := Lib.hid (show grdL (mxL xs) xs = (grdT (mxL xs) xs (0, 0, 0)).2.2 - (grdT (mxL xs) xs (0, 0, 0)).2.1 from rfl)
    have HG := Lib.hid (grdM_yes HR.out)
    have HXX := Lib.hid hr.2.2
    generalize mxL xs = m at *
    have HGE := Lib.hid hge
    rw [hR] at hV ⊢
    clear hR hr hbd hge
    go_enter Try.func42, Try.ntmps42
    go_wp2_with fail
    refine hV.mono ?_
    rintro e w1 ⟨rfl, b1⟩
    go_wp2_with fail
    refine (hM _ (h.same b1)).mono ?_
    rintro e w2 ⟨rfl, b2⟩
    have b3 := below_then b1 b2
    clear b1 b2 hM hV
    have b4 : Below w.heap.size w (w2.alloc (.cells (fldC ⟨#[]⟩ 0 0 0) 45)) := below_alloc b3 _
    have hk0 := World.alloc_heap_new w2 (.cells (fldC ⟨#[]⟩ 0 0 0) 45)
    have hsz := b3.size
    go_wp2_with fail
    obtain ⟨G, hG⟩ : ∃ G, G = w2.heap.size := ⟨_, rfl⟩
    rw [← hG] at hsz hk0 ⊢
    have HGG := Lib.hid hG
    clear b3 hG
    go_loopw [8, 9, 19] (fun _ _ i wr => ∃ (j : Nat) (s : ByteArray) (va vl vh : Int), j ≤ n ∧ i = .int .i64 j ∧ s.size ≤ j ∧ wr.heap[G]? = some (.cells (fldC s va vl vh) 45 (0, 0)) ∧ grdT m (xs.drop j) (va, vl, vh) = grdT m xs (0, 0, 0) ∧ (-m < va ∧ va ≤ m ∧ -m < vl ∧ vh ≤ m ∧ vl ≤ 0 ∧ 0 ≤ vh) ∧ Below w.heap.size w wr) (fun _ _ i _ => n - (intOf i).toNat)
    case atStart => exact ⟨0, ⟨#[]⟩, 0, 0, 0, Nat.zero_le _, rfl, Nat.le_refl _, hk0, rfl, by omega, b4⟩
    case round =>
      clear b4 hk0
      obtain ⟨j, s, va, vl, vh, hj, rfl, hs, hk, heq, ⟨g1, g2, g3, g4, g5, g6⟩, hb⟩ := hrel
      have HE := Lib.hid heq
      have HS := Lib.hid hs
      have HK := Lib.hid hk
      obtain ⟨k0, k1, k2, k3, kf⟩ := four_cells hk
      have f0 := kf 0
      have f1 := kf 1
      have f2 := kf 2
      have f3 := kf 3
      clear heq hk kf hs
      by_cases hlt : j < n
      · obtain ⟨b, off, rfl, hbl, hc⟩ := h.2 (by omega)
        have hcx : wr.cell? ⟨b, off + j, none⟩ = some (.int .i64 (xs.getD j 0)) := (hb.cell (p := ⟨b, off + j, none⟩) hbl).trans (hc j hlt)
        have hjl : j < xs.length := by rw [HL.out]; exact hlt
        have hx := HXX.out j hjl
        obtain ⟨q, l, g, hq, hl, hg, hst, t1, t2, t3, t4, t5, t6⟩ := grd_two m HXX.out HGE.out hm60 hjl g1 g2 g3 g4 g5 g6
        obtain ⟨x, ex⟩ : ∃ x, x = xs.getD j 0 := ⟨_, rfl⟩
        rw [← ex] at hcx hx hq
        have HST := Lib.hid hst
        have HT := Lib.hid (show -m < q ∧ q ≤ m ∧ -m < l ∧ g ≤ m ∧ l ≤ 0 ∧ 0 ≤ g from ⟨t1, t2, t3, t4, t5, t6⟩)
        have v1 : IntKind.i64.wrap (va + x) = va + x := wrap_is rfl (by omega) (by omega)
        have hGl : G < wr.heap.size := (Array.getElem?_eq_some_iff.1 HK.out).1
        rcases hq with ⟨hq1, hq2⟩ | ⟨hq1, hq2⟩
        · have hLd := laidR_any s va vl vh x wr (by have := HS.out; omega) (by omega) (by omega)
          rw [← hq2, hl, hg] at hLd
          have d1 : decide (va + x ≤ m) = true := by simpa using hq1
          clear hc h ex hst hl hg t1 t2 t3 t4 t5 t6 hjl hq1 hq2
          go_wp2_with fail
          refine hLd.mono ?_
          rintro e w3 ⟨rfl, b5⟩
          have hk3 := (b5.block _ hGl).trans HK.out
          have b6 := below_then hb b5
          obtain ⟨k0', k1', k2', k3', kf'⟩ := four_cells hk3
          have f0' := kf' 0
          have f1' := kf' 1
          have f2' := kf' 2
          have f3' := kf' 3
          have HN := Lib.hid (four_set hk3 (.string (s ++ ⟨#[114]⟩)) (.int .i64 q) (.int .i64 l) (.int .i64 g))
          have HB := Lib.hid (four_below b6 hsz (.string (s ++ ⟨#[114]⟩)) (.int .i64 q) (.int .i64 l) (.int .i64 g))
          clear hk3 kf' b5 b6 k0 k1 k2 k3 f0 f1 f2 f3 hLd hb
          go_wp2_with fail
          go_roundw
          case rel => first | exact ⟨j + 1, _, q, l, g, by omega, by go_num, by rw [size_snoc]; have := HS.out; omega, HN.out, by rw [← HST.out, HE.out], HT.out, HB.out⟩ | ((repeat apply Exists.intro); exact ⟨⟨j + 1, _, q, l, g, by omega, by go_num, by rw [size_snoc]; have := HS.out; omega, HN.out, by rw [← HST.out, HE.out], HT.out, HB.out⟩, rfl⟩)
          case measure => simp [intOf]; omega
        · have hLd := laidL_any s va vl vh x wr (by have := HS.out; omega) (by omega) (by omega)
          rw [← hq2, hl, hg] at hLd
          have d1 : decide (va + x ≤ m) = false := by simpa using hq1
          clear hc h ex hst hl hg t1 t2 t3 t4 t5 t6 hjl hq1 hq2
          go_wp2_with fail
          refine hLd.mono ?_
          rintro e w3 ⟨rfl, b5⟩
          have hk3 := (b5.block _ hGl).trans HK.out
          have b6 := below_then hb b5
          obtain ⟨k0', k1', k2', k3', kf'⟩ := four_cells hk3
          have f0' := kf' 0
          have f1' := kf' 1
          have f2' := kf' 2
          have f3' := kf' 3
          have HN := Lib.hid (four_set hk3 (.string (s ++ ⟨#[108]⟩)) (.int .i64 q) (.int .i64 l) (.int .i64 g))
          have HB := Lib.hid (four_below b6 hsz (.string (s ++ ⟨#[108]⟩)) (.int .i64 q) (.int .i64 l) (.int .i64 g))
          clear hk3 kf' b5 b6 k0 k1 k2 k3 f0 f1 f2 f3 hLd hb
          go_wp2_with fail
          go_roundw
          case rel => first | exact ⟨j + 1, _, q, l, g, by omega, by go_num, by rw [size_snoc]; have := HS.out; omega, HN.out, by rw [← HST.out, HE.out], HT.out, HB.out⟩ | ((repeat apply Exists.intro); exact ⟨⟨j + 1, _, q, l, g, by omega, by go_num, by rw [size_snoc]; have := HS.out; omega, HN.out, by rw [← HST.out, HE.out], HT.out, HB.out⟩, rfl⟩)
          case measure => simp [intOf]; omega
      · obtain rfl : j = n := by omega
        have hSp := fspan_any s va vl vh wr (by omega) (by omega)
        have HZ := Lib.hid (show vh - vl = grdM xs by
          rw [HG.out, HF.out, ← HE.out, List.drop_of_length_le (by rw [HL.out]; exact Nat.le_refl _)]
          rfl)
        clear h
        go_wp2_with fail
        refine hSp.mono ?_
        rintro e w3 ⟨rfl, b5⟩
        have b6 := below_then hb b5
        clear hSp b5 hb
        go_wp2_with fail
        go_ret2
        exact ⟨ret_ibq HZ.out rfl, b6⟩
  · rw [Bool.not_eq_true] at hR
    have HR := Lib.hid hR
    rw [hR] at hV ⊢
    clear hR
    go_enter Try.func42, Try.ntmps42
    go_wp2_with fail
    refine hV.mono ?_
    rintro e w1 ⟨rfl, b1⟩
    go_wp2_with fail
    go_ret2
    exact ⟨ret_ibq (grdM_no HR.out).symm rfl, b1⟩
end Go.Proofs.Ytogmoljaiapolaa
