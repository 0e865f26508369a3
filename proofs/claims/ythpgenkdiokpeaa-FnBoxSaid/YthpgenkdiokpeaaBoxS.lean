/- The model's boxes. -/
import Derived.Test.YthpgenkdiokpeaaPathS
import Derived.StillTailTactics
import Derived.Deep.DeepCutAuto
namespace Go.Proofs.Ythpgenkdiokpeaa
open Go.RowKit Go.Sort Go.Lib

def boxW (l : List Pt) : Int := hiN (cxN l) l.length - loN (cxN l) l.length
def boxH (l : List Pt) : Int := hiN (cyN l) l.length - loN (cyN l) l.length
/-- The first k numbers of the second list, and the rest of the first. -/
def mixL (a b : List Int) (k : Nat) : List Int := b.take k ++ a.drop k
theorem mix_set {a b : List Int} {k : Nat} (hk : k < 2) (ha : a.length = 2) (hb : b.length = 2) : (mixL a b k).set k (b.getD k 0) = mixL a b (k + 1) := by
  match a, b, ha, hb with
  | [a0, a1], [b0, b1], _, _ =>
    match k, hk with
    | 0, _ => rfl
    | 1, _ => rfl
theorem mix_at {a b : List Int} {k : Nat} (hk : k < 2) (ha : a.length = 2) (hb : b.length = 2) : (mixL a b k).getD k 0 = a.getD k 0 := by
  match a, b, ha, hb with
  | [a0, a1], [b0, b1], _, _ =>
    match k, hk with
    | 0, _ => rfl
    | 1, _ => rfl
theorem mix_len {a b : List Int} {k : Nat} (ha : a.length = 2) (hb : b.length = 2) : (mixL a b k).length = 2 := by
  simp [mixL, ha, hb]; omega
def loR (l : List Pt) (i : Nat) : List Int := [loN (cxN l) i, loN (cyN l) i]
def hiR (l : List Pt) (i : Nat) : List Int := [hiN (cxN l) i, hiN (cyN l) i]
theorem lo_next {l : List Pt} {i k : Nat} (hk : k < 2) : (loR l (i + 1)).getD k 0 = min ((loR l i).getD k 0) ((ptRow (cor l i)).getD k 0) := by
  match k, hk with
  | 0, _ => rfl
  | 1, _ => rfl
theorem hi_next {l : List Pt} {i k : Nat} (hk : k < 2) : (hiR l (i + 1)).getD k 0 = max ((hiR l i).getD k 0) ((ptRow (cor l i)).getD k 0) := by
  match k, hk with
  | 0, _ => rfl
  | 1, _ => rfl
theorem below_set {B : Nat} {w w' : World} {g : Nat} (h : Below B w w') (hg : B ≤ g) (j : Nat) (v : Value) : Below B w (w'.setCell ⟨g, j, none⟩ v) := h.setCell (p := ⟨g, j, none⟩) hg v
theorem Own.kept_of {w w' : World} {B n c g k : Nat} {xs : List Int} (h : Own w B (some ⟨g, 0, none⟩) n c xs) (hg : w.grownBy w' (some k)) (hne : g ≠ k) : Own w' B (some ⟨g, 0, none⟩) n c xs :=
  World.ownsRow.kept h hg (.inr (by simp only [Value.ownBlock, ne_eq, Option.some.injEq]; exact hne))
/-- What the loop over a corner's numbers keeps. -/
structure BoxK (w : World) (b1 b2 : Nat) (lo hi : List Int) (wr : World) : Prop where
  lo : Own wr w.heap.size (some ⟨b1, 0, none⟩) 2 2 lo
  hi : Own wr w.heap.size (some ⟨b2, 0, none⟩) 2 2 hi
  bel : Below w.heap.size w wr
theorem BoxK.dr {w : World} {b1 b2 : Nat} {lo hi : List Int} {wr : World} (h : BoxK w b1 b2 lo hi wr) : BoxK w b1 b2 lo hi wr.drew := ⟨h.lo, h.hi, h.bel.drew⟩
theorem BoxK.setLo {w : World} {b1 b2 : Nat} {lo hi : List Int} {wr : World} (h : BoxK w b1 b2 lo hi wr) (hne : b1 ≠ b2) (j : Nat) (u : Int) : BoxK w b1 b2 (lo.set j u) hi (wr.setCell ⟨b1, j, none⟩ (.int .i64 u)) := by
  obtain ⟨h1, h2⟩ := h.lo.stored j u
  exact ⟨h1, h.hi.kept_of h2 (Ne.symm hne), below_set h.bel h.lo.blk.1 j _⟩
theorem BoxK.setHi {w : World} {b1 b2 : Nat} {lo hi : List Int} {wr : World} (h : BoxK w b1 b2 lo hi wr) (hne : b1 ≠ b2) (j : Nat) (u : Int) : BoxK w b1 b2 lo (hi.set j u) (wr.setCell ⟨b2, j, none⟩ (.int .i64 u)) := by
  obtain ⟨h1, h2⟩ := h.hi.stored j u
  exact ⟨h.lo.kept_of h2 hne, h1, below_set h.bel h.hi.blk.1 j _⟩

set_option maxRecDepth 100000 in
set_option maxHeartbeats 8000000 in
theorem specPathBox_any (A : Option Addr) (n c : Nat) (L : List (List Int)) (w : World) (h : RdM w A n L) (hs : SmallM L) :
    Calls Try.prog 52 #[.slice A n c] w fun e w' => e = .returned (.tuple #[.int .i64 (ifP L boxW), .int .i64 (ifP L boxH), .bool (pathB L)]) ∧ Below w.heap.size w w' := by
  have hI := specPathIn_any A n c L w h hs
  have HL := Lib.hid h.1
  cases hp : pathB L with
  | false =>
    rw [ifP_no _ hp, ifP_no _ hp]
    rw [hp] at hI
    clear h hs hp
    go_enter Try.func52, Try.ntmps52
    go_wp2_with fail
    refine hI.mono ?_
    rintro e w1 ⟨rfl, b1⟩
    go_wp2_with fail
    go_ret3
    exact ⟨rfl, b1⟩
  | true =>
    rw [ifP_yes _ hp, ifP_yes _ hp]
    rw [hp] at hI
    have HK := Lib.hid (fun W (hW : Below w.heap.size w W) => l6sCorners_any A n c L W (h.same hW) hp)
    obtain ⟨P, _⟩ := pathB_true hp
    have hl : (ptsL L).length = n := by simp [h.1]
    have h8 := P.hi
    rw [hl] at h8
    generalize ptsL L = l at *
    have HBX := Lib.hid (fun i (hi : i ≤ n) => P.box_bd (l := l) (k := i) (by omega))
    have HBD := Lib.hid (fun i (hi : i < n) => P.bd72 (k := i) (by omega))
    obtain ⟨zw, ezw⟩ : ∃ z, z = boxW l := ⟨_, rfl⟩
    obtain ⟨zh, ezh⟩ : ∃ z, z = boxH l := ⟨_, rfl⟩
    rw [← ezw, ← ezh]
    have HF := Lib.hid (show zw = (hiR l n).getD 0 0 - (loR l n).getD 0 0 ∧ zh = (hiR l n).getD 1 0 - (loR l n).getD 1 0 from by rw [ezw, ezh, ← hl]; exact ⟨rfl, rfl⟩)
    have HLN := Lib.hid hl
    clear ezw ezh
    clear h hs hp P hl
    go_enter Try.func52, Try.ntmps52
    go_wp2_with fail
    refine hI.mono ?_
    rintro e w1 ⟨rfl, b1⟩
    have B1 := Lib.hid b1
    clear hI b1
    go_wp2_with fail
    refine (HK.out _ B1.out).mono ?_
    rintro e w2 ⟨A2, c2, rfl, ⟨gs, o2⟩, b2⟩
    have B2 := Lib.hid (below_then B1.out b2)
    have HR := Lib.hid o2.rd
    have OL : Own (w2.alloc (.cells (ints [0, 0]).toArray 3)) w2.heap.size (some ⟨w2.heap.size, 0, none⟩) 2 2 [0, 0] := Own.lit w2 (Nat.le_refl _) [0, 0] (by simp)
    have OH : Own ((w2.alloc (.cells (ints [0, 0]).toArray 3)).alloc (.cells (ints [0, 0]).toArray 3)) w2.heap.size (some ⟨w2.heap.size + 1, 0, none⟩) 2 2 [0, 0] := by
      have := Own.lit (w2.alloc (.cells (ints [0, 0]).toArray 3)) (B := w2.heap.size) (by simp) [0, 0] (by simp)
      simpa using this
    have K0 := Lib.hid (show BoxK w2 w2.heap.size (w2.heap.size + 1) (loR l 0) (hiR l 0) ((w2.alloc (.cells (ints [0, 0]).toArray 3)).alloc (.cells (ints [0, 0]).toArray 3)) from ⟨OL.al _, OH, below_alloc (below_alloc (Below.refl _ _) _) _⟩)
    clear OL OH o2 b2 B1 HK
    go_wp2_with fail
    go_loopw [8, 9] (fun i _ wr => ∃ j : Nat, j ≤ n ∧ i = .int .i64 j ∧ BoxK w2 w2.heap.size (w2.heap.size + 1) (loR l j) (hiR l j) wr) (fun i _ _ => n - (intOf i).toNat)
    case atStart => exact ⟨0, Nat.zero_le _, rfl, K0.out⟩
    case round =>
      obtain ⟨j, hj, rfl, hk⟩ := hrel
      by_cases hlt : j < n
      · obtain ⟨b, off, rfl, hbl, hc⟩ := HR.out.2 (by omega)
        obtain ⟨A1, c1, x1, r1⟩ := hc j hlt
        rw [rowsOf_at (by rw [corL_len, HLN.out]; exact hlt), corL_at (by rw [HLN.out]; exact hlt)] at x1 r1
        obtain ⟨b1, off1, rfl, hbl1, hc1⟩ := r1.2 (by simp)
        have HX := Lib.hid (And.intro x1 hc1)
        have HBL := Lib.hid (And.intro hbl hbl1)
        have HKJ := Lib.hid hk
        have g1 : (j : Int) < (n : Int) := by omega
        clear x1 r1 hc hc1 hk K0
        go_wp2_with fail
        go_loopw [9] (fun i wr => ∃ k : Nat, k ≤ 2 ∧ i = .int .i64 k ∧ BoxK w2 w2.heap.size (w2.heap.size + 1) (mixL (loR l j) (loR l (j + 1)) k) (mixL (hiR l j) (hiR l (j + 1)) k) wr) (fun i _ => 2 - (intOf i).toNat)
        case atStart => exact ⟨0, by omega, rfl, HKJ.out⟩
        case round =>
          obtain ⟨k, hk2, rfl, hk⟩ := hrel
          by_cases hlt2 : k < 2
          · have k0 := (hk.bel.cell (p := ⟨b, off + j, none⟩) HBL.out.1).trans HX.out.1
            have k1 := (hk.bel.cell (p := ⟨b1, off1 + k, none⟩) HBL.out.2).trans (HX.out.2 k (by simpa using hlt2))
            have k2 := hk.lo.cell k hlt2
            rw [mix_at hlt2 rfl rfl] at k2
            have f2 := hk.lo.free k
            have EL := Lib.hid (mix_set (a := loR l j) (b := loR l (j + 1)) hlt2 rfl rfl)
            have EH := Lib.hid (mix_set (a := hiR l j) (b := hiR l (j + 1)) hlt2 rfl rfl)
            have NL := Lib.hid (lo_next (l := l) (i := j) hlt2)
            have NH := Lib.hid (hi_next (l := l) (i := j) hlt2)
            have MH := Lib.hid (mix_at (a := hiR l j) (b := hiR l (j + 1)) hlt2 rfl rfl)
            have hr2 : (ptRow (cor l j)).length = 2 := rfl
            simp only [hr2] at k0
            have HK2 := Lib.hid hk
            have HLT := Lib.hid hlt2
            clear hk hr2 hk2
            generalize hpx : (ptRow (cor l j)).getD k 0 = px at *
            have HPX := Lib.hid hpx
            clear hpx
            generalize (loR l j).getD k 0 = lx at *
            generalize (hiR l j).getD k 0 = hx at *
            obtain ⟨m1, em1⟩ : ∃ m, (if px < lx then px else lx) = m := ⟨_, rfl⟩
            obtain ⟨m2, em2⟩ : ∃ m, (if hx < px then px else hx) = m := ⟨_, rfl⟩
            have E1 := Lib.hid (show (loR l (j + 1)).getD k 0 = m1 by rw [NL.out, ← em1]; split <;> omega)
            have E2 := Lib.hid (show (hiR l (j + 1)).getD k 0 = m2 by rw [NH.out, ← em2]; split <;> omega)
            have g2 : (k : Int) < 2 := by omega
            have g3 : 0 ≤ (k : Int) := by omega
            have hsz : wr.heap.size ≤ wr.heap.size := Nat.le_refl _
            go_upto_region 12 with fail
            go_cut [] (fun wx => BoxK w2 w2.heap.size (w2.heap.size + 1) ((mixL (loR l j) (loR l (j + 1)) k).set k m1) (mixL (hiR l j) (hiR l (j + 1)) k) wx)
            case first =>
              go_still_tail 15, (by kernel_rfl)
              change wpList _ _ _ _ _ wr.drew
              have HD := Lib.hid HK2.out.dr
              generalize wr.drew = wd at *
              have q1 := HD.out.lo.cell k HLT.out
              have q2 := HD.out.lo.free k
              clear k0 k1 k2 f2
              go_wp2_with fail
              go_meet
              exact HD.out.setLo (by omega) k m1
            case rest =>
              rw [← E1.out, EL.out] at hcut
              have HC2 := Lib.hid hcut
              have k0 := (HC2.out.bel.cell (p := ⟨b, off + j, none⟩) HBL.out.1).trans HX.out.1
              have k1 := (HC2.out.bel.cell (p := ⟨b1, off1 + k, none⟩) HBL.out.2).trans (HX.out.2 k (by simpa using HLT.out))
              have k2 := HC2.out.hi.cell k HLT.out
              rw [MH.out] at k2
              rw [HPX.out] at k1
              have hr2 : (ptRow (cor l j)).length = 2 := rfl
              simp only [hr2] at k0
              clear hcut hr2
              go_upto_region 13 with fail
              go_still_tail 15, (by kernel_rfl)
              change wpList _ _ _ _ _ wc.drew
              have HD := Lib.hid HC2.out.dr
              generalize wc.drew = wd at *
              have q1 := HD.out.hi.cell k HLT.out
              have q2 := HD.out.hi.free k
              have HS := Lib.hid (HD.out.setHi (by omega) k m2)
              rw [← E2.out, EH.out, E2.out] at HS
              clear k0 k1 k2
              go_wp2_with fail
              go_roundw
              case rel => first | exact ⟨k + 1, HLT.out, by go_num, HS.out⟩ | ((repeat apply Exists.intro); exact ⟨⟨k + 1, HLT.out, by go_num, HS.out⟩, rfl⟩)
              case measure => have := HLT.out; simp [intOf]; omega
          · obtain rfl : k = 2 := by omega
            have HC3 := Lib.hid hk
            have HLT := Lib.hid hlt
            clear hk
            go_wp2_with fail
            go_roundw
            case rel => first | exact ⟨j + 1, HLT.out, by go_num, HC3.out⟩ | ((repeat apply Exists.intro); exact ⟨⟨j + 1, HLT.out, by go_num, HC3.out⟩, rfl⟩)
            case measure => have := HLT.out; simp [intOf]; omega
      · obtain rfl : j = n := by omega
        have k0 := hk.lo.cell 0 (by omega)
        have k1 := hk.lo.cell 1 (by omega)
        have k2 := hk.hi.cell 0 (by omega)
        have k3 := hk.hi.cell 1 (by omega)
        have hbx := HBX.out j (Nat.le_refl _)
        rw [show loN (cxN l) j = (loR l j).getD 0 0 from rfl, show loN (cyN l) j = (loR l j).getD 1 0 from rfl, show hiN (cxN l) j = (hiR l j).getD 0 0 from rfl, show hiN (cyN l) j = (hiR l j).getD 1 0 from rfl] at hbx
        have HE := Lib.hid (below_then B2.out hk.bel)
        clear hk K0
        generalize (loR l j).getD 0 0 = p0 at *
        generalize (loR l j).getD 1 0 = p1 at *
        generalize (hiR l j).getD 0 0 = p2 at *
        generalize (hiR l j).getD 1 0 = p3 at *
        have hz := HF.out
        have v1 : IntKind.i64.wrap (p2 - p0) = zw := wrap_is hz.1.symm (by omega) (by omega)
        have v2 : IntKind.i64.wrap (p3 - p1) = zh := wrap_is hz.2.symm (by omega) (by omega)
        clear hbx hz
        go_wp2_with fail
        go_quiet (fail)
        go_wp2_with fail
        go_ret3
        exact ⟨rfl, below_drewN HE.out _⟩
end Go.Proofs.Ythpgenkdiokpeaa
