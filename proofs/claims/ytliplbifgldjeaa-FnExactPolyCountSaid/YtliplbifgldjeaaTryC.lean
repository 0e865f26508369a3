/- The closure that counts and remembers, tryClosing, PolyCount of the program. -/
import Derived.Test.YtliplbifgldjeaaMemo
import Derived.Test.YtliplbifgldjeaaPoly2
namespace Go.Proofs.Ytliplbifgldjeaa
open Go.RowKit Go.Maps

/-- The closure's variables: the map's block m, the cells of counts, greatest and count. -/
structure EnvT (w : World) (m b1 b2 b3 G n : Nat) : Prop where
  c1 : w.cell? ⟨b1, 0, none⟩ = some (.map (some m))
  c2 : w.cell? ⟨b2, 0, none⟩ = some (.int .i64 G)
  c3 : w.cell? ⟨b3, 0, none⟩ = some (.func (.func 90) #[] #[.pointer (some ⟨b1, 0, none⟩), .pointer (some ⟨b2, 0, none⟩), .pointer (some ⟨b3, 0, none⟩)])
  memo : MemoT w m G n
  n1 : b1 ≠ m
  n2 : b2 ≠ m
  n3 : b3 ≠ m
theorem EnvT.cells {w w' : World} {m b1 b2 b3 G n n' : Nat} (h : EnvT w m b1 b2 b3 G n) (hg : w.grownBy w' (some m)) (hm : MemoT w' m G n') : EnvT w' m b1 b2 b3 G n' := by
  have e1 := h.n1
  have e2 := h.n2
  have e3 := h.n3
  exact ⟨hg.cell h.c1 (by simpa using e1), hg.cell h.c2 (by simpa using e2), hg.cell h.c3 (by simpa using e3), hm, e1, e2, e3⟩
theorem EnvT.al {w : World} {m b1 b2 b3 G n : Nat} (h : EnvT w m b1 b2 b3 G n) (o : Obj) : EnvT (w.alloc o) m b1 b2 b3 G n := h.cells (World.grownBy_alloc w o _) (h.memo.al o)
/-- The closure's own variable m. -/
structure BoxT (w : World) (b0 : Nat) (q p l : Int) : Prop where
  c0 : w.cell? ⟨b0, 0, none⟩ = some (.int .i64 q)
  c1 : w.cell? ⟨b0, 1, none⟩ = some (.int .i64 p)
  c2 : w.cell? ⟨b0, 2, none⟩ = some (.int .i64 l)
theorem BoxT.kept {w w' : World} {b0 m : Nat} {q p l : Int} (h : BoxT w b0 q p l) (hg : w.grownBy w' (some m)) (hne : b0 ≠ m) : BoxT w' b0 q p l :=
  ⟨hg.cell h.c0 (by simpa using hne), hg.cell h.c1 (by simpa using hne), hg.cell h.c2 (by simpa using hne)⟩
theorem BoxT.made (w : World) (q p l : Int) : BoxT (w.alloc (.cells #[.int .i64 q, .int .i64 p, .int .i64 l] 57)) w.heap.size q p l := by
  have hb := World.alloc_heap_new w (.cells #[.int .i64 q, .int .i64 p, .int .i64 l] 57)
  refine ⟨?_, ?_, ?_⟩
  · rw [cell_of_row _ _ 0 _ _ _ hb]; rfl
  · rw [cell_of_row _ _ 1 _ _ _ hb]; rfl
  · rw [cell_of_row _ _ 2 _ _ _ hb]; rfl

/-- What a round of the closure's loop keeps. -/
structure CntR (w wr : World) (m b1 b2 b3 G n k c : Nat) (q p l : Int) : Prop where
  box : BoxT wr w.heap.size q p l
  env : ∃ n', n' ≤ n + k * c ∧ EnvT wr m b1 b2 b3 G n'
  grew : w.grownBy wr (some m)
theorem CntR.next {w wr w' : World} {m b1 b2 b3 G n k c n' : Nat} {q p l : Int} (h : CntR w wr m b1 b2 b3 G n k c q p l) (hm : m < w.heap.size) (hn : n' ≤ n + (k + 1) * c) (he : EnvT w' m b1 b2 b3 G n') (hg : wr.grownBy w' (some m)) : CntR w w' m b1 b2 b3 G n (k + 1) c q p l :=
  ⟨h.box.kept hg (by omega), ⟨n', hn, he⟩, h.grew.trans hg⟩

theorem wf_small {x : Int} (h0 : 0 ≤ x) (h1 : x ≤ 1073741824) : (Lit.int .i64 x).wf = true := WalkArith.wf_i64 (by omega)

set_option maxRecDepth 100000 in
set_option maxHeartbeats 4000000 in
theorem count_any (G : Nat) (hG : G ≤ 30) (m b1 b2 b3 : Nat) : ∀ (s S L n : Nat) (q p l : Int) (w : World), q = s → p = S → l = L → s ≤ 6 → S ≤ 30 → 1 ≤ L → L ≤ 31 → n + 32 ^ s ≤ 1099511627776 → EnvT w m b1 b2 b3 G n →
    Calls Try.prog 90 #[.agg #[.int .i64 q, .int .i64 p, .int .i64 l], .pointer (some ⟨b1, 0, none⟩), .pointer (some ⟨b2, 0, none⟩), .pointer (some ⟨b3, 0, none⟩)] w
      fun e w' => e = .returned (.int .i64 (cnt G s S L : Nat)) ∧ (∃ n', n' ≤ n + 32 ^ s ∧ EnvT w' m b1 b2 b3 G n') ∧ w.grownBy w' (some m)
  | 0, S, L, n, q, p, l, w, h1, h2, h3, h4, h5, h6, h7, h8, he => by
    have hq : (q == 0) = true := by simp; omega
    have HE := Lib.hid (he.al (.cells #[.int .i64 q, .int .i64 p, .int .i64 l] 57))
    have HG := Lib.hid (World.grownBy_alloc w (.cells #[.int .i64 q, .int .i64 p, .int .i64 l] 57) (some m))
    by_cases hp : S = 0
    · have HC := Lib.hid (show cnt G 0 S L = 1 by rw [cnt, if_pos hp])
      have d1 : (p == 0) = true := by simp; omega
      clear h1 h2 h3 he
      go_enter Try.func90, Try.ntmps90
      go_wp2_with fail
      go_ret
      exact ⟨by rw [HC.out]; rfl, ⟨n, by omega, HE.out⟩, HG.out⟩
    · have HC := Lib.hid (show cnt G 0 S L = 0 by rw [cnt, if_neg hp])
      have d1 : (p == 0) = false := by simp; omega
      clear h1 h2 h3 he
      go_enter Try.func90, Try.ntmps90
      go_wp2_with fail
      go_ret
      exact ⟨by rw [HC.out]; rfl, ⟨n, by omega, HE.out⟩, HG.out⟩
  | s + 1, S, L, n, q, p, l, w, h1, h2, h3, h4, h5, h6, h7, h8, he => by
    have IH := Lib.hid (count_any G hG m b1 b2 b3 s)
    have hq : (q == 0) = false := by simp; omega
    have hpow : 32 ^ (s + 1) = 32 * 32 ^ s := by rw [Nat.pow_succ, Nat.mul_comm]
    have hpos : 1 ≤ 32 ^ s := Nat.pow_pos (by omega)
    obtain ⟨c, hc⟩ : ∃ c, c = 32 ^ s := ⟨_, rfl⟩
    rw [← hc] at hpow hpos
    have HPW := Lib.hid hpow
    have HCC := Lib.hid hc
    have hT : (cnt G (s + 1) S L : Nat) = sumN (fun k => cnt G s (S - (L + k)) (L + k)) (min S G + 1 - L) := rfl
    have hTI : cntI G (q, p, l) = (cnt G (s + 1) S L : Nat) := by
      unfold cntI
      dsimp only
      rw [show q.toNat = s + 1 by omega, show p.toNat = S by omega, show l.toNat = L by omega]
    have hTb := cnt_big (s := s + 1) S L hG (by omega)
    obtain ⟨T, eT⟩ : ∃ T : Nat, T = cnt G (s + 1) S L := ⟨_, rfl⟩
    rw [← eT] at hT hTI hTb ⊢
    have hW : wf3 (q, p, l) := ⟨WalkArith.wf_i64 (by dsimp only; omega), WalkArith.wf_i64 (by dsimp only; omega), WalkArith.wf_i64 (by dsimp only; omega)⟩
    have hml := he.memo.lt
    have he1 := he.al (.cells #[.int .i64 q, .int .i64 p, .int .i64 l] 57)
    have hbx := BoxT.made w q p l
    have hg1 := World.grownBy_alloc w (.cells #[.int .i64 q, .int .i64 p, .int .i64 l] 57) (some m)
    have HE := Lib.hid he1
    have HBX := Lib.hid hbx
    have HG1 := Lib.hid hg1
    have k1 := he1.c1
    have hmem := he1.memo
    have HTI := Lib.hid hTI
    have HT := Lib.hid hT
    have H1 := Lib.hid h1
    have H2 := Lib.hid h2
    have H3 := Lib.hid h3
    have H8 := Lib.hid h8
    have q1 : 0 ≤ q ∧ q ≤ 6 := by omega
    have p1 : 0 ≤ p ∧ p ≤ 30 := by omega
    have l1 : 1 ≤ l ∧ l ≤ 31 := by omega
    clear h1 h2 h3 h8 he he1 hbx hg1 hTI hT eT hc hpow
    go_enter Try.func90, Try.ntmps90
    go_wp2_with (at_lookup; refine wp_memo_look _ rfl _ _ rfl m G n rfl hmem (q, p, l) rfl hW ?_ ?_)
    · rw [HTI.out]
      clear hmem
      go_wp2_with fail
      go_ret
      exact ⟨rfl, ⟨n, by have := HPW.out; omega, HE.out⟩, HG1.out⟩
    · intro z
      clear hmem
      go_wp2_with fail
      go_loopw [8, 9] (fun y x wr => ∃ k : Nat, k ≤ min S G + 1 - L ∧ x = .int .i64 (l + k) ∧ y = .int .i64 (sumN (fun k => cnt G s (S - (L + k)) (L + k)) k : Nat) ∧ CntR w wr m b1 b2 b3 G n k c q p l) (fun _ x _ => (31 - intOf x).toNat)
      case atStart => exact ⟨0, Nat.zero_le _, by simp, rfl, ⟨HBX.out, ⟨n, by omega, HE.out⟩, HG1.out⟩⟩
      case round =>
        clear k1
        obtain ⟨k, hk, rfl, rfl, hr⟩ := hrel
        have HR := Lib.hid hr
        obtain ⟨n', hn', hev⟩ := hr.env
        have cb0 := hr.box.c0
        have cb1 := hr.box.c1
        have cb2 := hr.box.c2
        have ce1 := hev.c1
        have ce2 := hev.c2
        have ce3 := hev.c3
        have HEV := Lib.hid hev
        have hyb : sumN (fun k => cnt G s (S - (L + k)) (L + k)) k ≤ 1073741824 * k := sumN_le (fun i => cnt_big _ _ hG (by omega)) k
        have hys : sumN (fun k => cnt G s (S - (L + k)) (L + k)) (k + 1) = sumN (fun k => cnt G s (S - (L + k)) (L + k)) k + cnt G s (S - (L + k)) (L + k) := rfl
        have hzb := cnt_big (s := s) (S - (L + k)) (L + k) hG (by omega)
        have hY : k = min S G + 1 - L → sumN (fun k => cnt G s (S - (L + k)) (L + k)) k = T := fun hj => by rw [hj, HT.out]
        generalize sumN (fun k => cnt G s (S - (L + k)) (L + k)) k = y at *
        have HY := Lib.hid hY
        clear hY
        have h2' := H2.out
        have h3' := H3.out
        have h1' := H1.out
        by_cases hlt : l + (k : Int) ≤ min p (G : Int)
        · have d1 : decide (l + (k : Int) ≤ min p (G : Int)) = true := by simpa using hlt
          have hc1 := IH.out (S - (L + k)) (L + k) n' (q - 1) (p - (l + k)) (l + k) wr (by omega) (by omega) (by omega) (by omega) (by omega) (by omega) (by omega) (by rw [← HCC.out]; have := Nat.mul_le_mul_right c (show k ≤ 30 by omega); have := H8.out; have := HPW.out; omega) HEV.out
          rw [← HCC.out] at hc1
          have hkc : n' + c ≤ n + (k + 1) * c := by rw [Nat.add_mul, Nat.one_mul]; omega
          generalize cnt G s (S - (L + k)) (L + k) = z at *
          have HYS := Lib.hid hys
          have HKC := Lib.hid hkc
          have HYB := Lib.hid hyb
          have v1 : IntKind.i64.wrap (q - 1) = q - 1 := wrap_is rfl (by omega) (by omega)
          have v2 : IntKind.i64.wrap (p - (l + k)) = p - (l + k) := wrap_is rfl (by omega) (by omega)
          have v3 : IntKind.i64.wrap ((y : Int) + z) = (y : Int) + z := wrap_is rfl (by omega) (by omega)
          have hk1 : k + 1 ≤ min S G + 1 - L := by have := H2.out; have := H3.out; omega
          have hle : l + (k : Int) ≤ 30 := by omega
          clear hys hkc hyb hzb HY hlt hn' hk h1' h2' h3'
          go_wp2_with fail
          refine hc1.mono ?_
          rintro e w2 ⟨rfl, ⟨n2, hn2, he2⟩, hg2⟩
          have HG2 := Lib.hid hg2
          have HE2 := Lib.hid he2
          clear hg2 he2
          go_wp2_with fail
          go_roundw
          case rel => exact ⟨k + 1, hk1, by go_num, by rw [HYS.out]; simp, HR.out.next hml (by have := HKC.out; omega) HE2.out HG2.out⟩
          case measure => simp [intOf]; omega
        · have d1 : decide (l + (k : Int) ≤ min p (G : Int)) = false := by simpa using hlt
          have hj : k = min S G + 1 - L := by have := H2.out; have := H3.out; omega
          have hyT := HY.out hj
          subst hyT
          have HYT := Lib.hid HTI.out
          have hmem := hev.memo
          have hn2 : n' < maxLen := by
            have := Nat.mul_le_mul_right c (show k ≤ 30 by omega)
            have := H8.out
            have := HPW.out
            unfold maxLen
            omega
          have hwy : (Lit.int .i64 (y : Int)).wf = true := WalkArith.wf_i64 (by omega)
          have hn3 : n' + 1 ≤ n + 32 ^ (s + 1) := by
            have := Nat.mul_le_mul_right c (show k ≤ 30 by omega)
            rw [HPW.out]; omega
          have HN3 := Lib.hid hn3
          clear hys hyb hzb HY hlt hn' hk hj hn3 h1' h2' h3'
          go_wp2_with (at_mapUpdate; refine wp_memo_store _ rfl _ _ _ rfl m G n' rfl hmem hn2 (q, p, l) rfl (y : Int) HYT.out.symm rfl hwy hW ?_; intro w3 hm3 hg3)
          go_ret
          exact ⟨rfl, ⟨n' + 1, HN3.out, HEV.out.cells hg3 hm3⟩, HR.out.grew.trans hg3⟩

abbrev funV (b1 b2 b3 : Nat) : Value := .func (.func 90) #[] #[.pointer (some ⟨b1, 0, none⟩), .pointer (some ⟨b2, 0, none⟩), .pointer (some ⟨b3, 0, none⟩)]
/-- What tryClosing's loop keeps behind k greatest lengths. -/
structure TryR (w : World) (m b1 b2 b3 k : Nat) (wr : World) : Prop where
  c1 : wr.cell? ⟨b1, 0, none⟩ = some (.map (some m))
  c3 : wr.cell? ⟨b3, 0, none⟩ = some (funV b1 b2 b3)
  own : Own wr b2 (some ⟨b2, 0, none⟩) 1 1 [(k : Int) + 1]
  memo : ∃ G n, MemoT wr m G n
  bel : Below w.heap.size w wr
/-- The round's end: the greatest length is one more. -/
theorem TryR.next {w wr w2 w3 : World} {m b1 b2 b3 k n : Nat} (h : TryR w m b1 b2 b3 k wr) (h0 : w.heap.size ≤ m) (h1 : m < b1) (h2 : b1 < b2) (h3 : b2 < b3) (g2 : wr.grownBy w2 (some m)) (he : EnvT w3 m b1 b2 b3 (k + 1) n) (g3 : w2.grownBy w3 (some m)) :
    w3.frozen? ⟨b2, 0, none⟩ = false ∧ w3.cell? ⟨b2, 0, none⟩ = some (.int .i64 ((k : Int) + 1)) ∧ TryR w m b1 b2 b3 (k + 1) (w3.setCell ⟨b2, 0, none⟩ (.int .i64 ((k : Int) + 1 + 1))) := by
  have g := g2.trans g3
  have ho := h.own.far g (fun j e => by cases e; exact .inl (by omega))
  have hs := ho.stored 0 ((k : Int) + 1 + 1)
  have hb := h.bel.grown g h.bel.size (fun j e => by cases e; exact h0)
  refine ⟨ho.free 0, ho.cell 0 (by omega), ?_, ?_, ?_, ?_, ?_⟩
  · exact hs.2.cell he.c1 (by simp; omega)
  · exact hs.2.cell he.c3 (by simp; omega)
  · have e : (((k + 1 : Nat) : Int) + 1) = (k : Int) + 1 + 1 := by omega
    rw [e]; exact hs.1
  · exact ⟨_, _, he.memo.kept hs.2 (by simp; omega)⟩
  · exact hb.grown hs.2 hb.size (fun j e => by cases e; omega)
theorem tryTo_bd {N P : Nat} (h6 : N ≤ 6) (h30 : P ≤ 30) : ∀ k, k ≤ 29 → tryTo N P k ≤ 1073741824 * k
  | 0, _ => by simp [tryTo]
  | k + 1, h => by
    have h1 := tryTo_bd h6 h30 k (by omega)
    have h2 := cnt_big (G := k + 1) (s := N - 1) (P - (k + 1)) 1 (by omega) (by omega)
    rw [tryTo]; omega
theorem try_start (w : World) : TryR w w.heap.size (w.heap.size + 1) (w.heap.size + 1 + 1) (w.heap.size + 1 + 1 + 1) 0
    ((((w.alloc (.map #[] 0)).alloc (.cells #[.map (some w.heap.size)] 71)).alloc (.cells #[.int .i64 1] 3)).alloc (.cells #[funV (w.heap.size + 1) (w.heap.size + 1 + 1) (w.heap.size + 1 + 1 + 1)] 72)) := by
  have s1 : (w.alloc (.map #[] 0)).heap.size = w.heap.size + 1 := World.size_alloc _ _
  have s2 : ((w.alloc (.map #[] 0)).alloc (.cells #[.map (some w.heap.size)] 71)).heap.size = w.heap.size + 1 + 1 := by rw [World.size_alloc, s1]
  have s3 : (((w.alloc (.map #[] 0)).alloc (.cells #[.map (some w.heap.size)] 71)).alloc (.cells #[.int .i64 1] 3)).heap.size = w.heap.size + 1 + 1 + 1 := by rw [World.size_alloc, s2]
  refine ⟨?_, ?_, ?_, ⟨0, 0, ((MemoT.made w 0).al _).al _ |>.al _⟩, below_alloc (below_alloc (below_alloc (below_alloc (Below.refl _ _) _) _) _) _⟩
  · have h := World.alloc_heap_new (w.alloc (.map #[] 0)) (.cells #[.map (some w.heap.size)] 71)
    rw [s1] at h
    have c : ((w.alloc (.map #[] 0)).alloc (.cells #[.map (some w.heap.size)] 71)).cell? ⟨w.heap.size + 1, 0, none⟩ = some (.map (some w.heap.size)) := by rw [cell_of_row _ _ 0 _ _ _ h]; rfl
    exact (World.grownBy_alloc _ _ none).cell ((World.grownBy_alloc _ _ none).cell c (by simp)) (by simp)
  · have h := World.alloc_heap_new (((w.alloc (.map #[] 0)).alloc (.cells #[.map (some w.heap.size)] 71)).alloc (.cells #[.int .i64 1] 3)) (.cells #[funV (w.heap.size + 1) (w.heap.size + 1 + 1) (w.heap.size + 1 + 1 + 1)] 72)
    rw [s3] at h
    rw [cell_of_row _ _ 0 _ _ _ h]; rfl
  · have ho := Own.lit ((w.alloc (.map #[] 0)).alloc (.cells #[.map (some w.heap.size)] 71)) (B := w.heap.size + 1 + 1) (by rw [s2]; exact Nat.le_refl _) [1] (by simp)
    rw [s2] at ho
    exact ho.al _

theorem pow_small {s : Nat} (h : s ≤ 6) : 0 + 32 ^ s ≤ 1099511627776 := by
  have h1 := Nat.pow_le_pow_right (show 32 > 0 by omega) h
  have h2 : 32 ^ 6 = 1073741824 := by decide
  omega
/-- How many greatest lengths are left to try. -/
def leftOf (w : World) (b : Nat) : Nat := match w.cell? ⟨b, 0, none⟩ with | some v => (31 - intOf v).toNat | none => 0
theorem leftOf_at {w : World} {b : Nat} {x : Int} (h : w.cell? ⟨b, 0, none⟩ = some (.int .i64 x)) : leftOf w b = (31 - x).toNat := by unfold leftOf; rw [h]; rfl

set_option maxRecDepth 100000 in
set_option maxHeartbeats 4000000 in
theorem tryClosing_any (N P : Nat) (w : World) (h3 : 3 ≤ N) (h6 : N ≤ 6) (h1 : 1 ≤ P) (h30 : P ≤ 30) :
    Calls Try.prog 70 #[.int .i64 N, .int .i64 P] w fun e w' => e = .returned (.int .i64 (tryN N P : Nat)) ∧ Below w.heap.size w w' := by
  have HT := Lib.hid (show tryN N P = tryTo N P ((P - 1) / 2) from rfl)
  have hmm := @run_makeMap Try.prog
  have HS := Lib.hid (try_start w)
  obtain ⟨m, em⟩ : ∃ m, m = w.heap.size := ⟨_, rfl⟩
  go_enter Try.func70, Try.ntmps70
  go_wp2_with fail
  go_loopw [8] (fun t wr => ∃ k : Nat, k ≤ (P - 1) / 2 ∧ t = .int .i64 (tryTo N P k : Nat) ∧ TryR w w.heap.size (w.heap.size + 1) (w.heap.size + 1 + 1) (w.heap.size + 1 + 1 + 1) k wr) (fun _ wr => leftOf wr (w.heap.size + 1 + 1))
  case atStart => exact ⟨0, Nat.zero_le _, rfl, HS.out⟩
  case round =>
    obtain ⟨k, hk, rfl, hr⟩ := hrel
    clear HS
    have HR := Lib.hid hr
    have k1 := hr.c1
    have k3 := hr.c3
    have k2 := hr.own.cell 0 (by omega)
    simp only [List.getD_cons_zero] at k2
    have hbd := tryTo_bd h6 h30 k (by omega)
    have hst : tryTo N P (k + 1) = tryTo N P k + cnt (k + 1) (N - 1) (P - (k + 1)) 1 := rfl
    have hzb := cnt_big (G := k + 1) (s := N - 1) (P - (k + 1)) 1 (by omega) (by omega)
    have HE := Lib.hid (show k = (P - 1) / 2 → tryTo N P k = tryN N P from fun e => by rw [HT.out, e])
    have v1 : IntKind.i64.wrap ((P : Int) - ((k : Int) + 1)) = (P : Int) - ((k : Int) + 1) := wrap_is rfl (by omega) (by omega)
    by_cases hlt : (k : Int) + 1 < (P : Int) - ((k : Int) + 1)
    · have d1 : decide ((k : Int) + 1 < (P : Int) - ((k : Int) + 1)) = true := by simpa using hlt
      obtain ⟨G0, n0, hm0⟩ := hr.memo
      obtain ⟨w2, hcl, hm2, hg2⟩ := hm0.clear
      have he2 : EnvT w2 w.heap.size (w.heap.size + 1) (w.heap.size + 1 + 1) (w.heap.size + 1 + 1 + 1) (k + 1) 0 :=
        ⟨hg2.cell k1 (by simp), hg2.cell k2 (by simp; omega), hg2.cell k3 (by simp; omega), hm2 _, by omega, by omega, by omega⟩
      have q1 := he2.c1
      have q2 := he2.c2
      have q3 := he2.c3
      have hc1 := count_any (k + 1) (by omega) w.heap.size (w.heap.size + 1) (w.heap.size + 1 + 1) (w.heap.size + 1 + 1 + 1) (N - 1) (P - (k + 1)) 1 0 ((N : Int) - 1) ((P : Int) - ((k : Int) + 1)) 1 w2 (by omega) (by omega) rfl (by omega) (by omega) (by omega) (by omega) (pow_small (by omega)) he2
      generalize cnt (k + 1) (N - 1) (P - (k + 1)) 1 = z at *
      generalize tryTo N P k = t at *
      have HST := Lib.hid hst
      have HG2 := Lib.hid hg2
      have v2 : IntKind.i64.wrap ((N : Int) - 1) = (N : Int) - 1 := wrap_is rfl (by omega) (by omega)
      have v3 : IntKind.i64.wrap ((t : Int) + z) = (t : Int) + z := wrap_is rfl (by omega) (by omega)
      clear hm0 hm2 hg2 he2 hst hzb hbd em
      go_wp2_with (simp only [hcl])
      refine hc1.mono ?_
      rintro e w3 ⟨rfl, ⟨n3, _, he3⟩, hg3⟩
      obtain ⟨f1, f2, f3⟩ := HR.out.next (Nat.le_refl _) (by omega) (by omega) (by omega) HG2.out he3 hg3
      have HF := Lib.hid f3
      clear f3 he3 hg3
      go_wp2_with fail
      go_roundw
      case rel => exact ⟨k + 1, by omega, by rw [HST.out]; simp, HF.out⟩
      case measure =>
        have c9 := HF.out.own.cell 0 (by omega)
        simp only [List.getD_cons_zero] at c9
        rw [leftOf_at c9, leftOf_at k2]
        omega
    · have d1 : decide ((k : Int) + 1 < (P : Int) - ((k : Int) + 1)) = false := by simpa using hlt
      have HX := Lib.hid (HE.out (by omega))
      clear em hst hzb hbd hr
      go_wp2_with fail
      go_ret
      exact ⟨ret_i (by rw [HX.out]), HR.out.bel⟩

set_option maxHeartbeats 1000000 in
theorem implPolyCount_any (n p : Int) (w : World) : Calls Try.prog 30 #[.int .i64 n, .int .i64 p] w fun e w' => e = .returned (.tuple #[.int .i64 (rstM n p), .bool (mayB n p)]) ∧ Below w.heap.size w w' := by
  by_cases hb : mayB n p = true
  · obtain ⟨N, P, rfl, rfl, h3, h4, h5, h6⟩ := mayB_true hb
    have HM := Lib.hid ((rstM_yes hb).trans (congrArg Nat.cast (poly_facts h3 h4 h5 h6).1.symm))
    have HB := Lib.hid hb
    have q0 := tryClosing_any N P w h3 h4 h5 h6
    generalize tryN N P = v at q0 HM
    clear hb
    go_enter Try.func30, Try.ntmps30
    go_wp2_with fail
    refine (implMay_any _ _ _).mono ?_
    rintro e w1 ⟨rfl, rfl⟩
    rw [HB.out]
    go_wp2_with fail
    refine q0.mono ?_
    rintro e w1 ⟨rfl, b1⟩
    go_wp2_with fail
    go_ret2
    exact ⟨ret_ibs HM.out.symm HB.out.symm, b1⟩
  · rw [Bool.not_eq_true] at hb
    have HM := Lib.hid (rstM_no hb)
    have HB := Lib.hid hb
    clear hb
    go_enter Try.func30, Try.ntmps30
    go_wp2_with fail
    refine (implMay_any _ _ _).mono ?_
    rintro e w1 ⟨rfl, rfl⟩
    rw [HB.out]
    go_wp2_with fail
    go_ret2
    exact ⟨ret_ibs HM.out.symm HB.out.symm, Below.refl _ _⟩
end Go.Proofs.Ytliplbifgldjeaa
