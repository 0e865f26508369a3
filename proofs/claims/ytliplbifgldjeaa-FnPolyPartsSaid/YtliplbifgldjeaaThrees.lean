/- The iterator of threes: it gives all of them, one behind the other, or stops where a round has said so. -/
import Derived.RangeFuncNested
import Derived.RangeFuncBound
import Derived.RangeFuncCalls
import Derived.RangeFuncLeaves
import Derived.Shelf.Abstract
import Derived.Shelf.RegionOpen
import Derived.WalkKit
import Derived.OwnWalkIn
import Derived.TacticsInMore
import Derived.LoopNIn
import Derived.LoopIn
import Derived.BigRegionIn
import Derived.Stop.RegionWithIn
import Derived.Test.YtliplbifgldjeaaThreeP
import Derived.Test.YtliplbifgldjeaaInStill
import Derived.Test.YtliplbifgldjeaaI1a
namespace Go.Proofs.Ytliplbifgldjeaa
open Go.RowKit Go.Shelf
attribute [local go_sem] Oper.semAt_some

/-- Three lengths from 1 to 60. -/
def In60 (t : T3) : Prop := (1 ≤ t.1 ∧ t.1 ≤ 60) ∧ (1 ≤ t.2.1 ∧ t.2.1 ≤ 60) ∧ (1 ≤ t.2.2 ∧ t.2.2 ≤ 60)
abbrev T60 := { t : T3 // In60 t }
open Classical in
noncomputable def up (t : T3) : T60 := if h : In60 t then ⟨t, h⟩ else ⟨(1, 1, 1), ⟨⟨by decide, by decide⟩, ⟨by decide, by decide⟩, ⟨by decide, by decide⟩⟩⟩
theorem up_eq {t : T3} (h : In60 t) : up t = ⟨t, h⟩ := by unfold up; rw [dif_pos h]
theorem up_of {t : T3} {T : T60} (h : T.1 = t) : up t = T := by subst h; exact up_eq T.2
theorem up_val {t : T3} (h : In60 t) : (up t).1 = t := by rw [up_eq h]
def enc3 (t : T60) : Array Value := #[.agg #[.int .i64 t.1.1, .int .i64 t.1.2.1, .int .i64 t.1.2.2]]
theorem J_drew {β : Type} {B : Nat} {J : β → World → Prop} (h : AbidesFrom B J) {s : β} {W : World} (hj : J s W) : J s W.drew := h s W W.drew none hj ⟨rfl, rfl, rfl, Nat.le_refl _, fun _ _ _ => rfl⟩ (fun r e => by cases e)

/-- Two blocks lie as they lay. -/
def Kp2 (x y : Nat) (W W' : World) : Prop := W'.heap[x]? = W.heap[x]? ∧ W'.heap[y]? = W.heap[y]?
theorem Kp2.refl (x y : Nat) (W : World) : Kp2 x y W W := ⟨rfl, rfl⟩
theorem Kp2.trans {x y : Nat} {A B C : World} (h : Kp2 x y A B) (k : Kp2 x y B C) : Kp2 x y A C := ⟨k.1.trans h.1, k.2.trans h.2⟩
theorem Kp2.drew {x y : Nat} {A B : World} (h : Kp2 x y A B) : Kp2 x y A B.drew := h
theorem Kp2.cell {x y : Nat} {A B : World} (h : Kp2 x y A B) (o : Nat) : B.cell? ⟨x, o, none⟩ = A.cell? ⟨x, o, none⟩ := World.cell?_of_block (a := ⟨x, o, none⟩) h.1
theorem Kp2.cell' {x y : Nat} {A B : World} (h : Kp2 x y A B) (o : Nat) : B.cell? ⟨y, o, none⟩ = A.cell? ⟨y, o, none⟩ := World.cell?_of_block (a := ⟨y, o, none⟩) h.2

set_option maxHeartbeats 1000000 in
theorem threes_in (F : Fence) (n : Nat) (h5 : F.fn 82) (hro : F.round = none) (a : Option Addr) (len cap : Nat) (w : World) :
    CallsIn F n Try.prog 82 #[.slice a len cap] w fun e w' => e = .returned (.func (.func 92) #[] #[.pointer (some ⟨w.heap.size, 0, none⟩)]) ∧ w' = w.alloc (.cells #[.slice a len cap] 42) := by
  refine callsIn_of_wp Try.func82 rfl h5 ?_ hro
  simp only [Try.ntmps82, List.size_toArray, List.length_cons, List.length_nil, Nat.reduceAdd, Nat.reduceSub, Array.replicate_succ, Array.replicate_zero, List.push_toArray, List.append_toArray, List.nil_append, List.cons_append]
  gi_wp2
  go_ret
  exact ⟨rfl, rfl⟩

def cameTo (zs : List Int) (n i cj ck : Nat) : List T3 := r1 zs n i ++ r2 zs n i cj ++ r3 zs i (i + 1 + cj) ck
theorem came_k (zs : List Int) (n i cj ck : Nat) : cameTo zs n i cj (ck + 1) = cameTo zs n i cj ck ++ [(zs.getD i 0, zs.getD (i + 1 + cj) 0, zs.getD (i + 1 + cj + 1 + ck) 0)] := by
  unfold cameTo; rw [r3]; simp
theorem came_j (zs : List Int) (n i cj : Nat) : cameTo zs n i cj (n - (i + 1 + cj + 1)) = cameTo zs n i (cj + 1) 0 := by
  unfold cameTo; rw [r2, r3]; simp
theorem came_i (zs : List Int) (n i : Nat) : cameTo zs n i (n - (i + 1)) 0 = cameTo zs n (i + 1) 0 0 := by
  unfold cameTo; rw [r1, r2, r3]; simp [r3]
theorem r3_len (zs : List Int) (i j : Nat) : ∀ c, (r3 zs i j c).length = c
  | 0 => rfl
  | c + 1 => by rw [r3, List.length_append, r3_len zs i j c]; rfl
theorem r2_len (zs : List Int) (n i : Nat) : ∀ c, (r2 zs n i c).length ≤ c * n
  | 0 => by simp [r2]
  | c + 1 => by rw [r2, List.length_append, r3_len, Nat.succ_mul]; have := r2_len zs n i c; omega
theorem r1_len (zs : List Int) (n : Nat) (hn : n ≤ 9) : ∀ m, (r1 zs n m).length ≤ m * 81
  | 0 => by simp [r1]
  | m + 1 => by
    rw [r1, List.length_append, Nat.succ_mul]
    have h1 := r1_len zs n hn m
    have h2 := r2_len zs n m (n - (m + 1))
    have h3 : (n - (m + 1)) * n ≤ 9 * 9 := Nat.mul_le_mul (by omega) hn
    omega
theorem came_len (zs : List Int) (n i cj ck : Nat) (hn : n ≤ 9) (hi : i ≤ 9) (hj : cj ≤ 9) (hk : ck ≤ 9) : (cameTo zs n i cj ck).length < 1000000 := by
  unfold cameTo
  rw [List.length_append, List.length_append, r3_len]
  have h1 := r1_len zs n hn i
  have h2 := r2_len zs n i cj
  have h3 : cj * n ≤ 9 * 9 := Nat.mul_le_mul hj hn
  omega
theorem memb60 {zs : List Int} (hz : ∀ j, j < zs.length → 1 ≤ zs.getD j 0 ∧ zs.getD j 0 ≤ 60) {t : T3} (h : Memb zs t) : In60 t := by
  obtain ⟨i, j, k, h1, h2, h3, rfl⟩ := h
  exact ⟨hz i (by omega), hz j (by omega), hz k h3⟩
theorem came_memb {zs : List Int} {n i cj ck : Nat} (hzl : zs.length = n) (hi : i < n) (hj : i + 1 + cj < n) (hk : i + 1 + cj + 1 + ck ≤ n) : ∀ t ∈ cameTo zs n i cj ck, Memb zs t := by
  subst hzl
  intro t ht
  unfold cameTo at ht
  rw [List.mem_append, List.mem_append] at ht
  rcases ht with (ht | ht) | ht
  · exact r1_mem i (by omega) ht
  · exact r2_mem cj (by omega) ht
  · exact r3_mem (by omega) ck (by omega) ht
theorem map_up_memb {zs : List Int} (hz : ∀ j, j < zs.length → 1 ≤ zs.getD j 0 ∧ zs.getD j 0 ≤ 60) {l : List T3} (h : ∀ t ∈ l, Memb zs t) : ∀ t ∈ l.map up, Memb zs t.1 := by
  intro t ht
  obtain ⟨u, hu, rfl⟩ := List.mem_map.1 ht
  rw [up_val (memb60 hz (h u hu))]
  exact h u hu
/-- What a round has answered. -/
def Said3 (Bs b : Nat) (J Jx : List T60 → World → Prop) (l : List T60) (W1 : World) (v : Bool) (W' : World) : Prop := (v = true ∧ J l W' ∧ Kp2 Bs b W1 W') ∨ (v = false ∧ Jx l W')

set_option maxRecDepth 100000 in
set_option maxHeartbeats 4000000 in
theorem threes1_in (m : Nat) (l Bs b off n cap : Nat) (zs : List Int) (hn9 : n ≤ 9) (hzl : zs.length = n) (hz : ∀ j, j < n → 1 ≤ zs.getD j 0 ∧ zs.getD j 0 ≤ 60) (J Jx : List T60 → World → Prop) (B : Nat) (hJ : AbidesFrom B J)
    (hY : ∀ pre x W, J pre W → pre.length < 1000000 → YieldAt Fence.wide (m - 1) Try.prog l (enc3 x) W fun e W' =>
      (e = .returned (.bool true) ∧ J (pre ++ [x]) W' ∧ Kp2 Bs b W W') ∨ (e = .returned (.bool false) ∧ Jx (pre ++ [x]) W'))
    (W : World) (hBs : W.cell? ⟨Bs, 0, none⟩ = some (.slice (some ⟨b, off, none⟩) n cap)) (hc : ∀ j, j < n → W.cell? ⟨b, off + j, none⟩ = some (.int .i64 (zs.getD j 0))) (h0 : J [] W) :
    CallsIn Fence.wide m Try.prog 92 #[.func (.yield l) #[] #[], .pointer (some ⟨Bs, 0, none⟩)] W fun e W' => (∃ v, e = .returned v) ∧
      ((∃ ys, ys = (allT zs).map up ∧ J ys W') ∨ (∃ pre, (∀ t ∈ pre, Memb zs t.1) ∧ Jx pre W')) := by
  have hro : Fence.wide.round = none := rfl
  refine callsIn_of_wp Try.func92 rfl trivial ?_ hro
  simp only [Try.ntmps92, List.size_toArray, List.length_cons, List.length_nil, Nat.reduceAdd, Nat.reduceSub, Array.replicate_succ, Array.replicate_zero, List.push_toArray, List.append_toArray, List.nil_append, List.cons_append]
  gi_wp2
  gi_loopw [3, 4, 5, 8] (fun _ _ _ i wr => ∃ k : Nat, k ≤ n ∧ i = .int .i64 k ∧ J ((r1 zs n k).map up) wr ∧ Kp2 Bs b W wr) (fun _ _ _ i _ => n - (intOf i).toNat)
  case atStart => exact ⟨0, Nat.zero_le _, rfl, h0, Kp2.refl _ _ _⟩
  case round =>
    obtain ⟨i, hi, rfl, hJs, hnx⟩ := hrel
    by_cases hlt : i < n
    · obtain ⟨wo, rfl⟩ : ∃ wo : World, wo = wr := ⟨_, rfl⟩
      have HBs := Lib.hid hBs
      have hBo := (hnx.cell 0).trans hBs
      clear hBs
      have d1 : decide ((i : Int) < (n : Int)) = true := by simp; omega
      gi_wp2
      gi_loopw [4, 5] (fun j _ wr => ∃ cj : Nat, i + 1 + cj ≤ n ∧ j = .int .i64 ((i : Int) + 1 + cj) ∧ J ((cameTo zs n i cj 0).map up) wr ∧ Kp2 Bs b W wr) (fun j _ _ => n - (intOf j).toNat)
      case atStart => exact ⟨0, by omega, by simp, by simpa [cameTo, r2, r3] using hJs, hnx⟩
      case round =>
        clear hJs hnx hBo
        obtain ⟨cj, hcj, rfl, hJs, hnx⟩ := hrel
        have hBo := (hnx.cell 0).trans HBs.out
        by_cases hltj : i + 1 + cj < n
        · obtain ⟨wp, rfl⟩ : ∃ wp : World, wp = wr := ⟨_, rfl⟩
          have d2 : decide ((i : Int) + 1 + cj < (n : Int)) = true := by simp; omega
          gi_wp2
          gi_loopw [5] (fun k wr => ∃ ck : Nat, i + 1 + cj + 1 + ck ≤ n ∧ k = .int .i64 ((i : Int) + 1 + cj + 1 + ck) ∧ J ((cameTo zs n i cj ck).map up) wr ∧ Kp2 Bs b W wr) (fun k _ => n - (intOf k).toNat)
          case atStart => exact ⟨0, by omega, by simp, hJs, hnx⟩
          case round =>
            clear hJs hnx hBo
            obtain ⟨ck, hck, rfl, hJs, hnx⟩ := hrel
            have hBo := (hnx.cell 0).trans HBs.out
            by_cases hltk : i + 1 + cj + 1 + ck < n
            · have cx := (hnx.cell' (off + i)).trans (hc i hlt)
              have cy := (hnx.cell' (off + (i + 1 + cj))).trans (hc (i + 1 + cj) hltj)
              have cz := (hnx.cell' (off + (i + 1 + cj + 1 + ck))).trans (hc (i + 1 + cj + 1 + ck) hltk)
              have ht : In60 (zs.getD i 0, zs.getD (i + 1 + cj) 0, zs.getD (i + 1 + cj + 1 + ck) 0) := ⟨hz _ hlt, hz _ hltj, hz _ hltk⟩
              have came := came_k zs n i cj ck
              have hlen := came_len zs n i cj ck hn9 (by omega) (by omega) (by omega)
              obtain ⟨x, ex⟩ : ∃ x, x = zs.getD i 0 := ⟨_, rfl⟩
              obtain ⟨y, ey⟩ : ∃ y, y = zs.getD (i + 1 + cj) 0 := ⟨_, rfl⟩
              obtain ⟨z, ez⟩ : ∃ z, z = zs.getD (i + 1 + cj + 1 + ck) 0 := ⟨_, rfl⟩
              rw [← ex, ← ey, ← ez] at ht came
              rw [← ex] at cx
              rw [← ey] at cy
              rw [← ez] at cz
              have EX := Lib.hid ex
              have EY := Lib.hid ey
              have EZ := Lib.hid ez
              have HT := Lib.hid ht
              have CM := Lib.hid came
              have e1 : (0 : Int) ≤ (i : Int) + 1 + cj := by omega
              have e2 : (0 : Int) ≤ (i : Int) + 1 + cj + 1 + ck := by omega
              have e3 : (i : Int) + 1 + cj < (n : Int) := by omega
              have e4 : (i : Int) + 1 + cj + 1 + ck < (n : Int) := by omega
              have e5 : (i : Int) < (n : Int) := by omega
              have e6 : ((i : Int) + 1 + cj).toNat = i + 1 + cj := by omega
              have e7 : ((i : Int) + 1 + cj + 1 + ck).toNat = i + 1 + cj + 1 + ck := by omega
              obtain ⟨T, hT⟩ : ∃ T : T60, T.1 = (x, y, z) := ⟨⟨_, ht⟩, rfl⟩
              have TT := Lib.hid (up_of hT)
              obtain ⟨fn, tmps, assign, body, hy, hR0⟩ := hY ((cameTo zs n i cj ck).map up) T wr.drew (J_drew hJ hJs) (by rw [List.length_map]; exact hlen)
              have hR := hR0.mono (R' := fun e W' => ∃ v, e = .returned (.bool v) ∧ Said3 Bs b J Jx ((cameTo zs n i cj ck).map up ++ [T]) wr.drew v W') (fun e W' h => by
                rcases h with ⟨rfl, h1, h2⟩ | ⟨rfl, h1⟩
                · exact ⟨true, rfl, .inl ⟨rfl, h1, h2⟩⟩
                · exact ⟨false, rfl, .inr ⟨rfl, h1⟩⟩)
              clear hR0
              unfold enc3 at hy
              rw [hT] at hy
              dsimp only at hy
              clear ex ey ez hc ht came hlen hY hT
              have d3 : decide ((i : Int) + 1 + cj + 1 + ck < (n : Int)) = true := by simp; omega
              gi_wp2
              refine region_tail_in 14 (by kernel_rfl) (by kernel_rfl) ?_
              simp only [List.take_succ_cons, List.take_zero, List.drop_succ_cons, List.drop_zero]
              repeat still_step
              refine wpStill_nil ?_
              change wpListIn _ _ _ _ _ _ _ wr.drew
              gi_wp2
              refine ⟨fun h => (by cases h), hR.mono ?_⟩
              rintro e W3 ⟨v, rfl, h3⟩
              rcases h3 with ⟨rfl, h3, hk3⟩ | ⟨rfl, h3⟩
              · gi_wp2
                go_roundw
                case rel => first | exact ⟨ck + 1, by omega, by go_num, by rw [CM.out, List.map_append, List.map_singleton, TT.out]; exact h3, hnx.trans hk3⟩ | ((repeat apply Exists.intro); exact ⟨⟨ck + 1, by omega, by go_num, by rw [CM.out, List.map_append, List.map_singleton, TT.out]; exact h3, hnx.trans hk3⟩, rfl⟩)
                case measure => simp [intOf]; omega
              · gi_wp2
                refine bodyPost_ret (results_none rfl _ _ _) rfl ?_
                refine ⟨⟨_, rfl⟩, .inr ⟨_, ?_, h3⟩⟩
                have hm := map_up_memb (by rw [hzl]; exact hz) (came_memb (ck := ck + 1) hzl hlt hltj (by omega))
                rw [CM.out, List.map_append, List.map_singleton, TT.out] at hm
                exact hm
            · obtain rfl : ck = n - (i + 1 + cj + 1) := by omega
              rw [came_j] at hJs
              gi_wp2
              go_roundw
              case rel => first | exact ⟨cj + 1, by omega, by go_num, hJs, hnx⟩ | ((repeat apply Exists.intro); exact ⟨⟨cj + 1, by omega, by go_num, hJs, hnx⟩, rfl⟩)
              case measure => simp [intOf]; omega
        · obtain rfl : cj = n - (i + 1) := by omega
          rw [came_i] at hJs
          gi_wp2
          go_roundw
          case rel => first | exact ⟨i + 1, by omega, by go_num, by simpa [cameTo, r2, r3] using hJs, hnx⟩ | ((repeat apply Exists.intro); exact ⟨⟨i + 1, by omega, by go_num, by simpa [cameTo, r2, r3] using hJs, hnx⟩, rfl⟩)
          case measure => simp [intOf]; omega
    · obtain rfl : i = n := by omega
      gi_wp2
      go_end0
      exact ⟨⟨_, rfl⟩, .inl ⟨_, by unfold allT; rw [hzl], hJs⟩⟩
end Go.Proofs.Ytliplbifgldjeaa
