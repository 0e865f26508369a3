/- The iterator of threes that are sides: it gives their places, one three behind the other, or stops where a round has said so. -/
import Derived.RangeFuncNested
import Derived.RangeFuncBound
import Derived.RangeFuncCalls
import Derived.RangeFuncLeaves
import Derived.Shelf.Abstract
import Derived.Shelf.RegionOpen
import Derived.WalkKit
import Derived.OwnWalkIn
import Derived.TacticsInMore
import Derived.LoopNIn
import Derived.LoopIn
import Derived.BigRegionIn
import Derived.Stop.RegionWithIn
import Derived.Test.YtiadnbdefcimiaaPartP
import Derived.Test.YtiadnbdefcimiaaInStill
import Derived.Test.YtiadnbdefcimiaaWid
namespace Go.Proofs.Ytiadnbdefcimiaa
open Go.RowKit Go.Shelf
attribute [local go_sem] Oper.semAt_some

abbrev trioV (t : Tri) : Value := .agg #[.int .i64 t.1, .int .i64 t.2.1, .int .i64 t.2.2]
def encQ (t : Tri) : Array Value := #[trioV t]
theorem J_drew {β : Type} {B : Nat} {J : β → World → Prop} (h : AbidesFrom B J) {s : β} {W : World} (hj : J s W) : J s W.drew := h s W W.drew none hj ⟨rfl, rfl, rfl, Nat.le_refl _, fun _ _ _ => rfl⟩ (fun r e => by cases e)
theorem J_alloc {β : Type} {B : Nat} {J : β → World → Prop} (h : AbidesFrom B J) {s : β} {W : World} (hj : J s W) (o : Obj) : J s (W.alloc o) := h s W _ none hj (World.grownBy_alloc W o none) (fun r e => by cases e)

/-- Two blocks lie as they lay. -/
def Kp2 (x y : Nat) (W W' : World) : Prop := W'.heap[x]? = W.heap[x]? ∧ W'.heap[y]? = W.heap[y]?
theorem Kp2.refl (x y : Nat) (W : World) : Kp2 x y W W := ⟨rfl, rfl⟩
theorem Kp2.trans {x y : Nat} {A B C : World} (h : Kp2 x y A B) (k : Kp2 x y B C) : Kp2 x y A C := ⟨k.1.trans h.1, k.2.trans h.2⟩
theorem Kp2.drew {x y : Nat} {A B : World} (h : Kp2 x y A B) : Kp2 x y A B.drew := h
theorem Kp2.cell {x y : Nat} {A B : World} (h : Kp2 x y A B) (o : Nat) : B.cell? ⟨x, o, none⟩ = A.cell? ⟨x, o, none⟩ := World.cell?_of_block (a := ⟨x, o, none⟩) h.1
theorem Kp2.cell' {x y : Nat} {A B : World} (h : Kp2 x y A B) (o : Nat) : B.cell? ⟨y, o, none⟩ = A.cell? ⟨y, o, none⟩ := World.cell?_of_block (a := ⟨y, o, none⟩) h.2
theorem Kp2.alloc {x y : Nat} {A B : World} (h : Kp2 x y A B) (hx : x < B.heap.size) (hy : y < B.heap.size) (o : Obj) : Kp2 x y A (B.alloc o) :=
  h.trans ⟨(World.grownBy_alloc B o none).block x hx (by simp), (World.grownBy_alloc B o none).block y hy (by simp)⟩
theorem lt_of_cell {W : World} {x o : Nat} {v : Value} (h : W.cell? ⟨x, o, none⟩ = some v) : x < W.heap.size := by
  obtain ⟨ob, ho, _⟩ := not_walk_of_cell h
  exact (Array.getElem?_eq_some_iff.1 ho).1

set_option maxHeartbeats 1000000 in
theorem closing_in (F : Fence) (n : Nat) (h5 : F.fn 85) (hro : F.round = none) (a : Option Addr) (len cap : Nat) (w : World) :
    CallsIn F n Try.prog 85 #[.slice a len cap] w fun e w' => e = .returned (.func (.func 96) #[] #[.pointer (some ⟨w.heap.size, 0, none⟩)]) ∧ w' = w.alloc (.cells #[.slice a len cap] 39) := by
  refine callsIn_of_wp Try.func85 rfl h5 ?_ hro
  simp only [Try.ntmps85, List.size_toArray, List.length_cons, List.length_nil, Nat.reduceAdd, Nat.reduceSub, Array.replicate_succ, Array.replicate_zero, List.push_toArray, List.append_toArray, List.nil_append, List.cons_append]
  gi_wp2
  go_ret
  exact ⟨rfl, rfl⟩

def cameQ (zs : List Int) (n i cj ck : Nat) : List Tri := (q1 n i ++ q2 n i cj ++ q3 i (i + 1 + cj) ck).filter (cloQ zs)
theorem cameQ_yes {zs : List Int} {n i cj ck : Nat} (h : cloQ zs (i, i + 1 + cj, i + 1 + cj + 1 + ck) = true) : cameQ zs n i cj (ck + 1) = cameQ zs n i cj ck ++ [(i, i + 1 + cj, i + 1 + cj + 1 + ck)] := by
  unfold cameQ; rw [q3, ← List.append_assoc, List.filter_append (p := cloQ zs) _ [_], List.filter_cons, if_pos h, List.filter_nil]
theorem cameQ_no {zs : List Int} {n i cj ck : Nat} (h : cloQ zs (i, i + 1 + cj, i + 1 + cj + 1 + ck) = false) : cameQ zs n i cj (ck + 1) = cameQ zs n i cj ck := by
  unfold cameQ; rw [q3, ← List.append_assoc, List.filter_append (p := cloQ zs) _ [_], List.filter_cons, h, List.filter_nil, if_neg Bool.false_ne_true, List.append_nil]
theorem cameQ_j (zs : List Int) (n i cj : Nat) : cameQ zs n i cj (n - (i + 1 + cj + 1)) = cameQ zs n i (cj + 1) 0 := by
  unfold cameQ; rw [q2, q3]; simp
theorem cameQ_i (zs : List Int) (n i : Nat) : cameQ zs n i (n - (i + 1)) 0 = cameQ zs n (i + 1) 0 0 := by
  unfold cameQ; rw [q1, q2, q3]; simp [q3]
theorem q3_len (i j : Nat) : ∀ c, (q3 i j c).length = c
  | 0 => rfl
  | c + 1 => by rw [q3, List.length_append, q3_len i j c]; rfl
theorem q2_len (n i : Nat) : ∀ c, (q2 n i c).length ≤ c * n
  | 0 => by simp [q2]
  | c + 1 => by rw [q2, List.length_append, q3_len, Nat.succ_mul]; have := q2_len n i c; omega
theorem q1_len (n : Nat) (hn : n ≤ 9) : ∀ m, (q1 n m).length ≤ m * 81
  | 0 => by simp [q1]
  | m + 1 => by
    rw [q1, List.length_append, Nat.succ_mul]
    have h1 := q1_len n hn m
    have h2 := q2_len n m (n - (m + 1))
    have h3 : (n - (m + 1)) * n ≤ 9 * 9 := Nat.mul_le_mul (by omega) hn
    omega
theorem cameQ_len (zs : List Int) (n i cj ck : Nat) (hn : n ≤ 9) (_hi : i ≤ 9) (hj : cj ≤ 9) (hk : ck ≤ 9) : (cameQ zs n i cj ck).length < 1000000 := by
  unfold cameQ
  refine Nat.lt_of_le_of_lt (List.length_filter_le _ _) ?_
  rw [List.length_append, List.length_append, q3_len]
  have h1 := q1_len n hn i
  have h2 := q2_len n i cj
  have h3 : cj * n ≤ 9 * 9 := Nat.mul_le_mul hj hn
  omega
theorem cameQ_mem {zs : List Int} {n i cj ck : Nat} (_ : i < n) (hk : i + 1 + cj + 1 + ck ≤ n) : ∀ t ∈ cameQ zs n i cj ck, t ∈ triP (cloQ zs) n := by
  intro t ht
  unfold cameQ at ht
  obtain ⟨h1, h2⟩ := List.mem_filter.1 ht
  refine List.mem_filter.2 ⟨?_, h2⟩
  rw [allQ_mem]
  rw [List.mem_append, List.mem_append, q1_mem, q2_mem, q3_mem] at h1
  omega
/-- What a round has answered. -/
def SaidQ (Bs b : Nat) (J Jx : List Tri → World → Prop) (l : List Tri) (W1 : World) (v : Bool) (W' : World) : Prop := (v = true ∧ J l W' ∧ Kp2 Bs b W1 W') ∨ (v = false ∧ Jx l W')

set_option maxRecDepth 100000 in
set_option maxHeartbeats 8000000 in
theorem closing1_in (m : Nat) (l Bs b off n cap : Nat) (zs : List Int) (hn9 : n ≤ 9) (hzl : zs.length = n) (hz : ∀ j, j < n → 1 ≤ zs.getD j 0 ∧ zs.getD j 0 ≤ 60) (J Jx : List Tri → World → Prop) (B : Nat) (hJ : AbidesFrom B J)
    (hY : ∀ pre x W, J pre W → pre.length < 1000000 → YieldAt Fence.wide (m - 1) Try.prog l (encQ x) W fun e W' =>
      (e = .returned (.bool true) ∧ J (pre ++ [x]) W' ∧ Kp2 Bs b W W') ∨ (e = .returned (.bool false) ∧ Jx (pre ++ [x]) W'))
    (W : World) (hBs : W.cell? ⟨Bs, 0, none⟩ = some (.slice (some ⟨b, off, none⟩) n cap)) (hc : ∀ j, j < n → W.cell? ⟨b, off + j, none⟩ = some (.int .i64 (zs.getD j 0))) (h0 : J [] W) :
    CallsIn Fence.wide m Try.prog 96 #[.func (.yield l) #[] #[], .pointer (some ⟨Bs, 0, none⟩)] W fun e W' => (∃ v, e = .returned v) ∧
      ((∃ ys, ys = triP (cloQ zs) n ∧ J ys W') ∨ (∃ pre, (∀ t ∈ pre, t ∈ triP (cloQ zs) n) ∧ Jx pre W')) := by
  have hro : Fence.wide.round = none := rfl
  refine callsIn_of_wp Try.func96 rfl trivial ?_ hro
  simp only [Try.ntmps96, List.size_toArray, List.length_cons, List.length_nil, Nat.reduceAdd, Nat.reduceSub, Array.replicate_succ, Array.replicate_zero, List.push_toArray, List.append_toArray, List.nil_append, List.cons_append]
  gi_wp2
  gi_loopw [3, 4, 5, 6, 9] (fun _ _ _ _ i wr => ∃ k : Nat, k ≤ n ∧ i = .int .i64 k ∧ J (cameQ zs n k 0 0) wr ∧ Kp2 Bs b W wr) (fun _ _ _ _ i _ => n - (intOf i).toNat)
  case atStart => exact ⟨0, Nat.zero_le _, rfl, h0, Kp2.refl _ _ _⟩
  case round =>
    obtain ⟨i, hi, rfl, hJs, hnx⟩ := hrel
    by_cases hlt : i < n
    · obtain ⟨wo, rfl⟩ : ∃ wo : World, wo = wr := ⟨_, rfl⟩
      have HBs := Lib.hid hBs
      have hBo := (hnx.cell 0).trans hBs
      clear hBs
      have d1 : decide ((i : Int) < (n : Int)) = true := by simp; omega
      gi_wp2
      gi_loopw [4, 5, 6] (fun j _ _ wr => ∃ cj : Nat, i + 1 + cj ≤ n ∧ j = .int .i64 ((i : Int) + 1 + cj) ∧ J (cameQ zs n i cj 0) wr ∧ Kp2 Bs b W wr) (fun j _ _ _ => n - (intOf j).toNat)
      case atStart => exact ⟨0, by omega, by simp, by simpa [cameQ, q2, q3] using hJs, hnx⟩
      case round =>
        clear hJs hnx hBo
        obtain ⟨cj, hcj, rfl, hJs, hnx⟩ := hrel
        have hBo := (hnx.cell 0).trans HBs.out
        by_cases hltj : i + 1 + cj < n
        · obtain ⟨wp, rfl⟩ : ∃ wp : World, wp = wr := ⟨_, rfl⟩
          have d2 : decide ((i : Int) + 1 + cj < (n : Int)) = true := by simp; omega
          gi_wp2
          gi_loopw [5, 6] (fun k _ wr => ∃ ck : Nat, i + 1 + cj + 1 + ck ≤ n ∧ k = .int .i64 ((i : Int) + 1 + cj + 1 + ck) ∧ J (cameQ zs n i cj ck) wr ∧ Kp2 Bs b W wr) (fun k _ _ => n - (intOf k).toNat)
          case atStart => exact ⟨0, by omega, by simp, hJs, hnx⟩
          case round =>
            clear hJs hnx hBo
            obtain ⟨ck, hck, rfl, hJs, hnx⟩ := hrel
            have hBo := (hnx.cell 0).trans HBs.out
            by_cases hltk : i + 1 + cj + 1 + ck < n
            · have cx := (hnx.cell' (off + i)).trans (hc i hlt)
              have cy := (hnx.cell' (off + (i + 1 + cj))).trans (hc (i + 1 + cj) hltj)
              have cz := (hnx.cell' (off + (i + 1 + cj + 1 + ck))).trans (hc (i + 1 + cj + 1 + ck) hltk)
              have sz1 := lt_of_cell hBo
              have sz2 := lt_of_cell cx
              have hlen := cameQ_len zs n i cj ck hn9 (by omega) (by omega) (by omega)
              have hx := hz _ hlt
              have hy := hz _ hltj
              have hzz := hz _ hltk
              have HY := Lib.hid (fun x W => hY (cameQ zs n i cj ck) x W)
              have HLEN := Lib.hid hlen
              have HM := Lib.hid (cameQ_mem (zs := zs) (cj := cj) (ck := ck + 1) hlt (by omega))
              have HJ := Lib.hid hJs
              have HQ := Lib.hid (show cloQ zs (i, i + 1 + cj, i + 1 + cj + 1 + ck) = triB (zs.getD i 0) (zs.getD (i + 1 + cj) 0) (zs.getD (i + 1 + cj + 1 + ck) 0) from rfl)
              obtain ⟨x, ex⟩ : ∃ x, x = zs.getD i 0 := ⟨_, rfl⟩
              obtain ⟨y, ey⟩ : ∃ y, y = zs.getD (i + 1 + cj) 0 := ⟨_, rfl⟩
              obtain ⟨z, ez⟩ : ∃ z, z = zs.getD (i + 1 + cj + 1 + ck) 0 := ⟨_, rfl⟩
              rw [← ex, ← ey, ← ez] at HQ
              rw [← ex] at cx hx
              rw [← ey] at cy hy
              rw [← ez] at cz hzz
              have e1 : (0 : Int) ≤ (i : Int) + 1 + cj := by omega
              have e2 : (0 : Int) ≤ (i : Int) + 1 + cj + 1 + ck := by omega
              have e3 : (i : Int) + 1 + cj < (n : Int) := by omega
              have e4 : (i : Int) + 1 + cj + 1 + ck < (n : Int) := by omega
              have e5 : (i : Int) < (n : Int) := by omega
              have e6 : ((i : Int) + 1 + cj).toNat = i + 1 + cj := by omega
              have e7 : ((i : Int) + 1 + cj + 1 + ck).toNat = i + 1 + cj + 1 + ck := by omega
              have HX := Lib.hid hx
              have HYy := Lib.hid hy
              have HZ := Lib.hid hzz
              clear ex ey ez hc hlen hY hJs hx hy hzz
              have d3 : decide ((i : Int) + 1 + cj + 1 + ck < (n : Int)) = true := by simp; omega
              gi_wp2
              gi_region
              obtain ⟨v, hv⟩ : ∃ v, v = triB x y z := ⟨_, rfl⟩
              have HV := Lib.hid hv
              gi_wp2_with fail
              refine ⟨trivial, fun h => (by cases h), (callsIn_wide.2 (closes_is hv.symm _ HX.out.1 HX.out.2 HYy.out.1 HYy.out.2 HZ.out.1 HZ.out.2)).mono ?_⟩
              rintro e w' ⟨rfl, o, rfl⟩
              have hk1 : Kp2 Bs b W ((wr.alloc (.cells #[.int .i64 x, .int .i64 y, .int .i64 z] 51)).drew.alloc (.cells o 51)) := Kp2.alloc (Kp2.drew (hnx.alloc sz1 sz2 _)) (by show Bs < (wr.alloc _).heap.size; simp; omega) (by show b < (wr.alloc _).heap.size; simp; omega) _
              have hj1 := J_alloc hJ (J_drew hJ (J_alloc hJ HJ.out (.cells #[.int .i64 x, .int .i64 y, .int .i64 z] 51))) (.cells o 51)
              clear hv
              generalize (wr.alloc (.cells #[.int .i64 x, .int .i64 y, .int .i64 z] 51)).drew.alloc (.cells o 51) = W2 at *
              have HK1 := Lib.hid hk1
              cases v with
              | true =>
                have CM := Lib.hid (cameQ_yes (n := n) (show cloQ zs (i, i + 1 + cj, i + 1 + cj + 1 + ck) = true by rw [HQ.out]; exact HV.out.symm))
                obtain ⟨fn, tmps, assign, body, hy, hR0⟩ := HY.out (i, i + 1 + cj, i + 1 + cj + 1 + ck) W2 hj1 HLEN.out
                have hR := hR0.mono (R' := fun e W' => ∃ v, e = .returned (.bool v) ∧ SaidQ Bs b J Jx (cameQ zs n i cj (ck + 1)) W2 v W') (fun e W' h => by
                  rw [CM.out]
                  rcases h with ⟨rfl, h1, h2⟩ | ⟨rfl, h1⟩
                  · exact ⟨true, rfl, .inl ⟨rfl, h1, h2⟩⟩
                  · exact ⟨false, rfl, .inr ⟨rfl, h1⟩⟩)
                clear hR0 hj1 hk1
                unfold encQ trioV at hy
                dsimp only at hy
                have e8 : ((i + 1 + cj : Nat) : Int) = (i : Int) + 1 + cj := by omega
                have e9 : ((i + 1 + cj + 1 + ck : Nat) : Int) = (i : Int) + 1 + cj + 1 + ck := by omega
                rw [e8, e9] at hy
                gi_wp2
                refine ⟨fun h => (by cases h), hR.mono ?_⟩
                rintro e W3 ⟨v, rfl, h3⟩
                rcases h3 with ⟨rfl, h3, hk3⟩ | ⟨rfl, h3⟩
                · gi_wp2
                  go_roundw
                  case rel => first | exact ⟨ck + 1, by omega, by go_num, h3, HK1.out.trans hk3⟩ | ((repeat apply Exists.intro); exact ⟨⟨ck + 1, by omega, by go_num, h3, HK1.out.trans hk3⟩, rfl⟩)
                  case measure => simp [intOf]; omega
                · gi_wp2
                  refine bodyPost_ret (results_none rfl _ _ _) rfl ?_
                  exact ⟨⟨_, rfl⟩, .inr ⟨_, HM.out, h3⟩⟩
              | false =>
                have CM := Lib.hid (cameQ_no (n := n) (show cloQ zs (i, i + 1 + cj, i + 1 + cj + 1 + ck) = false by rw [HQ.out]; exact HV.out.symm))
                have HJ1 := Lib.hid hj1
                clear hj1 hk1
                gi_wp2
                refine ⟨fun _ h => (by cases h), ?_⟩
                gi_wp2
                go_roundw
                case rel => first | exact ⟨ck + 1, by omega, by go_num, by rw [CM.out]; exact HJ1.out, HK1.out⟩ | ((repeat apply Exists.intro); exact ⟨⟨ck + 1, by omega, by go_num, by rw [CM.out]; exact HJ1.out, HK1.out⟩, rfl⟩)
                case measure => simp [intOf]; omega
            · obtain rfl : ck = n - (i + 1 + cj + 1) := by omega
              rw [cameQ_j] at hJs
              gi_wp2
              go_roundw
              case rel => first | exact ⟨cj + 1, by omega, by go_num, hJs, hnx⟩ | ((repeat apply Exists.intro); exact ⟨⟨cj + 1, by omega, by go_num, hJs, hnx⟩, rfl⟩)
              case measure => simp [intOf]; omega
        · obtain rfl : cj = n - (i + 1) := by omega
          rw [cameQ_i] at hJs
          gi_wp2
          go_roundw
          case rel => first | exact ⟨i + 1, by omega, by go_num, by simpa [cameQ, q2, q3] using hJs, hnx⟩ | ((repeat apply Exists.intro); exact ⟨⟨i + 1, by omega, by go_num, by simpa [cameQ, q2, q3] using hJs, hnx⟩, rfl⟩)
          case measure => simp [intOf]; omega
    · obtain rfl : i = n := by omega
      gi_wp2
      go_end0
      exact ⟨⟨_, rfl⟩, .inl ⟨_, by simp [cameQ, q2, q3, triP, allQ], hJs⟩⟩
theorem closing_stops (m Bs b off n cap : Nat) (zs : List Int) (hn9 : n ≤ 9) (hzl : zs.length = n) (hz : ∀ j, j < n → 1 ≤ zs.getD j 0 ∧ zs.getD j 0 ≤ 60) (w0 : World)
    (hBs : w0.cell? ⟨Bs, 0, none⟩ = some (.slice (some ⟨b, off, none⟩) n cap)) (hc : ∀ j, j < n → w0.cell? ⟨b, off + j, none⟩ = some (.int .i64 (zs.getD j 0))) (h1 : Bs < w0.heap.size) (h2 : b < w0.heap.size) :
    SeqStopsK Fence.wide m Try.prog 96 #[.pointer (some ⟨Bs, 0, none⟩)] encQ (Kp2 Bs b) (fun ys => ys = triP (cloQ zs) n) (fun pre => ∀ t ∈ pre, t ∈ triP (cloQ zs) n) 1000000 w0 :=
  fun l J Jx W hW hJ _ hY h0 => closing1_in m l Bs b off n cap zs hn9 hzl hz J Jx _ hJ hY W ((hW.cell (p := ⟨Bs, 0, none⟩) h1).trans hBs) (fun j hj => (hW.cell (p := ⟨b, off + j, none⟩) h2).trans (hc j hj)) h0
theorem kp2_b {B x y : Nat} (hx : x < B) (hy : y < B) (W : World) (l : Nat) (o o' : Obj) (h : B ≤ l) (_ : W.heap[l]? = some o) (_ : o.isCells = false) (_ : o.isWalk = false) : Kp2 x y W (W.putObj l o') := by
  have hg := grownBy_putObj' W l o'
  constructor
  · rcases Nat.lt_or_ge x W.heap.size with h1 | h1
    · exact hg.block x h1 (fun e => by injection e; omega)
    · rw [Array.getElem?_eq_none h1]; exact Array.getElem?_eq_none (by show (W.putObj l o').heap.size ≤ x; unfold World.putObj; simp; omega)
  · rcases Nat.lt_or_ge y W.heap.size with h1 | h1
    · exact hg.block y h1 (fun e => by injection e; omega)
    · rw [Array.getElem?_eq_none h1]; exact Array.getElem?_eq_none (by show (W.putObj l o').heap.size ≤ y; unfold World.putObj; simp; omega)
theorem kp2_of {x y : Nat} {W W' : World} {row : Option Nat} (hg : W.grownBy W' row) (hx : x < W.heap.size) (hy : y < W.heap.size) (h1 : ∀ k, row = some k → k ≠ x ∧ k ≠ y) : Kp2 x y W W' :=
  ⟨hg.block x hx (fun e => (h1 x e.symm).1 rfl), hg.block y hy (fun e => (h1 y e.symm).2 rfl)⟩
theorem own_size {β : Type} (B k : Nat) : OwnFrom B (fun (_ : β) (W : World) => k ≤ W.heap.size) := fun _ _ _ _ hs hg _ => Nat.le_trans hs hg.size
end Go.Proofs.Ytiadnbdefcimiaa
