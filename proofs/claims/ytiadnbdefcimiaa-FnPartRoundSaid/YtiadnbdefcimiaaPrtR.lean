/- Joined: PrtR, PrtE. -/
import Derived.Test.YtiadnbdefcimiaaPrtW
import Derived.Test.YtiadnbdefcimiaaFloat
import Derived.Test.YtiadnbdefcimiaaRLists
import Derived.Deep.RegionWith
/- The program's greatest sum of sticks in threes: PartRound. -/
namespace Go.Proofs.Ytiadnbdefcimiaa
open Go.RowKit Go.Sort Go.Lib Go.Shelf

theorem Boxed.same_ {W W' : World} {B : Nat} {t : TypeId} {v : Value} (h : Boxed W B t v) (hb : Below W.heap.size W W') : Boxed W' B t v := h.kept (grown_of_below hb) (by simp)
theorem stk_sum (zs l : List Int) (k : Int) : sumL (stkL zs l k) = sumW (fun p => zs.getD p 0) l k := by
  rw [sumL_eq, stkL, sumW_of]
theorem stk_len (zs l : List Int) (k : Int) : (stkL zs l k).length ≤ l.length := by
  unfold stkL ofP
  rw [List.length_map]
  exact Nat.le_trans (List.length_filter_le _ _) (by simp)
theorem stk_small {zs l : List Int} {k : Int} (hz : ∀ j, j < l.length → 1 ≤ zs.getD j 0 ∧ zs.getD j 0 ≤ 60) : Small 1000000 (stkL zs l k) := fun j hj => by
  have hm : (stkL zs l k).getD j 0 ∈ stkL zs l k := by
    rw [List.getD_eq_getElem?_getD, List.getElem?_eq_getElem hj]
    exact List.getElem_mem _
  generalize (stkL zs l k).getD j 0 = x at *
  unfold stkL at hm
  obtain ⟨p, hp, rfl⟩ := List.mem_map.1 hm
  have := hz p (ofP_mem.1 hp).1
  omega
theorem sumW_bd {zs l : List Int} {k : Int} (hl : l.length ≤ 9) (hz : ∀ j, j < l.length → 1 ≤ zs.getD j 0 ∧ zs.getD j 0 ≤ 60) : 0 ≤ sumW (fun p => zs.getD p 0) l k ∧ sumW (fun p => zs.getD p 0) l k ≤ 540 := by
  refine ⟨sumW_nn fun p hp => by have := hz p hp; omega, ?_⟩
  unfold sumW
  have : ∀ m, m ≤ l.length → (sI m fun p => if l.getD p 0 = k then zs.getD p 0 else 0) ≤ 60 * (m : Int) := by
    intro m
    induction m with
    | zero => intro _; simp [sI]
    | succ m ih =>
      intro hm
      have h1 := ih (by omega)
      have h2 := hz m (by omega)
      rw [sI]
      split <;> (push_cast; omega)
  have := this l.length (Nat.le_refl _)
  dsimp only
  omega
/-- What the visit of PartRound holds: the greatest sum so far, and the bundle. -/
structure RndJ (bx bb : Nat) (A : Option Addr) (n c : Nat) (zs : List Int) (s : Int) (W : World) : Prop where
  x : Boxed W bx 3 (.int .i64 s)
  b : Boxed W bb 39 (.slice A n c)
  rd : Rd W A n zs
  ne : bb ≠ bx
def accR (zs : List Int) (n : Nat) (s : Int) (l : List Int) : Int := max s (rndL (fun p => zs.getD p 0) n l)
set_option maxRecDepth 100000 in
set_option maxHeartbeats 4000000 in
theorem partRound1_any (bx bb b off n c cz : Nat) (A : Option Addr) (zs l : List Int) (s : Int) (W : World) (hR : Rd W (some ⟨b, off, none⟩) n l) (hn1 : 1 ≤ n) (hn : n ≤ 9) (hz : ∀ j, j < n → 1 ≤ zs.getD j 0 ∧ zs.getD j 0 ≤ 60)
    (hx : Boxed W bx 3 (.int .i64 s)) (hbb : Boxed W bb 39 (.slice A n cz)) (hA : Rd W A n zs) :
    Calls Try.prog 53 #[.slice (some ⟨b, off, none⟩) n c, .pointer (some ⟨bx, 0, none⟩), .pointer (some ⟨bb, 0, none⟩)] W fun e w' => e = .returned (.tuple #[]) ∧ Boxed w' bx 3 (.int .i64 (accR zs n s l)) ∧ W.grownBy w' (some bx) := by
  have hl := hR.1
  have hz0 : ∀ j, j < l.length → 1 ≤ zs.getD j 0 ∧ zs.getD j 0 ≤ 60 := by rw [hl]; exact hz
  have hzl : zs.length = n := hA.1
  have hsm : Small 1000000 zs := fun j hj => by have := hz j (by omega); omega
  have HS := Lib.hid (fun W' (h : Below W.heap.size W W') => implSum_any A n cz zs W' (hA.same h) (by omega) hsm)
  have HK := Lib.hid (fun W' (h : Below W.heap.size W W') => stickL_any (some ⟨b, off, none⟩) A n c n cz l zs (-1) W' (hR.same h) (hA.same h) (Nat.le_refl _) (by omega))
  have HT := Lib.hid (fun (A' : Option Addr) (c' : Nat) W' (h : Own W' W.heap.size A' (stkL zs l (-1)).length c' (stkL zs l (-1))) => implSum_any A' (stkL zs l (-1)).length c' (stkL zs l (-1)) W' h.rd (by have := stk_len zs l (-1); omega) (stk_small hz0))
  have hb1 := sumW_bd (zs := zs) (l := l) (k := -1) (by omega) hz0
  have hs1 : sumL zs = sI n (fun p => zs.getD p 0) := by rw [sumL_eq, ← sI_sum, hzl]
  have hb2 : 0 ≤ sumL zs ∧ sumL zs ≤ 540 := by
    rw [hs1, sumW_noP]
    exact sumW_bd (l := noP n) (by simp [noP]; omega) (by simpa [noP] using hz)
  have HA := Lib.hid (show accR zs n s l = max s (sumL zs - sumL (stkL zs l (-1))) by rw [hs1, stk_sum]; rfl)
  rw [← stk_sum] at hb1
  generalize stkL zs l (-1) = K at *
  generalize sumL zs = z1 at *
  generalize sumL K = z2 at *
  have v1 : IntKind.i64.wrap (z1 - z2) = z1 - z2 := wrap_is rfl (by omega) (by omega)
  generalize hM : max s (z1 - z2) = M at *
  have hM' : (if s < z1 - z2 then z1 - z2 else s) = M := by rw [← hM]; split <;> omega
  have y0 := hx.cell
  have y1 := hbb.cell
  have yf := hx.frozen
  have HX := Lib.hid hx
  have k0 := hx.lt
  have k1 := hbb.lt
  clear hR hz hz0 hzl hsm hA hl hs1 hx hbb
  have z0 := cell_regrown y0
  have z1 := cell_regrown y1
  have HRG := Lib.hid (show Rg W W.drew from regrown_of_below (Below.refl _ _).drew)
  clear y0 y1 yf
  refine (callsIn_wide (n := 5)).1 ?_
  refine callsIn_of_wp Try.func53 rfl trivial ?_ rfl
  simp only [Try.ntmps53, List.size_toArray, List.length_cons, List.length_nil, Nat.reduceAdd, Nat.reduceSub, Array.replicate_succ, Array.replicate_zero, List.push_toArray, List.append_toArray, List.nil_append, List.cons_append]
  gi_wp2_with fail
  refine region_pick 8 [(true, 0), (true, 1), (true, 3), (true, 4), (false, 2), (false, 5), (false, 6), (false, 7), (false, 8), (false, 9)] (by kernel_rfl) (by kernel_rfl) (fun _ _ t _ _ h => by cases t <;> exact h) ?_
  simp only [pickOps, List.map_cons, List.map_nil, List.getD_cons_zero, List.getD_cons_succ]
  refine pick_read HRG.out (.int .i64 s) rfl (fun _ => rfl) (by rintro _ ⟨⟨d, os⟩, rfl⟩; go_simp) ?_
  refine pick_read HRG.out (.slice A n cz) rfl (fun _ => rfl) (by rintro _ ⟨⟨d, os⟩, rfl⟩; go_simp) ?_
  refine pick_read HRG.out (.slice (some ⟨b, off, none⟩) n c) rfl (fun _ => rfl) (by rintro _ ⟨⟨d, os⟩, rfl⟩; go_simp) ?_
  refine pick_read HRG.out (.slice A n cz) rfl (fun _ => rfl) (by rintro _ ⟨⟨d, os⟩, rfl⟩; go_simp) ?_
  clear z0 z1
  refine pick_step (fun K hK => ?_)
  unfold wpStep
  go_simp
  refine ⟨trivial, (callsIn_wide.2 (HS.out W.drew (Below.refl _ _).drew)).mono ?_⟩
  rintro e w2 ⟨rfl, b2⟩
  have d2 : Below W.heap.size W w2 := (Below.refl _ _).drew.trans b2
  refine hK _ _ (fun _ => regrown_of_below d2) ?_
  clear hK K b2
  refine pick_step (fun K hK => ?_)
  unfold wpStep
  go_simp
  refine ⟨trivial, (callsIn_wide.2 (HK.out w2 d2)).mono ?_⟩
  rintro e w3 ⟨⟨A3, c3, rfl, o3⟩, b3⟩
  have d3 : Below W.heap.size W w3 := d2.trans (b3.mono d2.size)
  refine hK _ _ (fun _ => regrown_of_below d3) ?_
  clear hK K b3
  refine pick_step (fun K hK => ?_)
  unfold wpStep
  go_simp
  refine ⟨trivial, (callsIn_wide.2 (HT.out _ _ _ (o3.lower d2.size))).mono ?_⟩
  rintro e w4 ⟨rfl, b4⟩
  have d4 : Below W.heap.size W w4 := d3.trans (b4.mono d3.size)
  refine hK _ _ (fun _ => regrown_of_below d4) ?_
  have HD := Lib.hid d4
  have hx4 := HX.out.kept (grown_of_below d4) (by simp)
  have q0 := hx4.cell
  have qf := hx4.frozen
  have HX4 := Lib.hid hx4
  clear hK K b4 o3 d2 d3 d4 hx4
  refine pick_step (fun K hK => ?_)
  unfold wpStep
  go_simp
  refine hK _ _ (fun _ => regrown_of_below HD.out) ?_
  clear hK K
  refine pick_step (fun K hK => ?_)
  unfold wpStep
  go_simp
  refine hK _ _ (fun h => absurd h (by omega)) ?_
  clear hK K
  refine pick_step (fun K hK => ?_)
  unfold wpStep
  go_simp
  refine hK _ _ (fun h => absurd h (by omega)) ?_
  clear hK K
  unfold wpPick
  gi_wp2_with fail
  all_goals go_end0
  exact ⟨rfl, by rw [HA.out]; exact HX4.out.set _, (grown_weak (grown_of_below HD.out) _).trans (grownBy_setCell' _ _ _)⟩
theorem RndJ.kept {bx bb n c B : Nat} {A : Option Addr} {zs : List Int} {s : Int} {W W' : World} {row : Option Nat} (h : RndJ bx bb A n c zs s W) (hg : W.grownBy W' row) (hA : ∀ b off, A = some ⟨b, off, none⟩ → b < B) (h1 : bx < B) (h2 : bb < B) (hr : ∀ r, row = some r → B ≤ r) : RndJ bx bb A n c zs s W' := by
  refine ⟨h.x.kept hg (fun e => by have := hr bx e.symm; omega), h.b.kept hg (fun e => by have := hr bb e.symm; omega), ⟨h.rd.1, fun hn => ?_⟩, h.ne⟩
  obtain ⟨b, off, e, hb, hc⟩ := h.rd.2 hn
  have hbB := hA b off e
  have hne : some b ≠ row := fun e => by have := hr b e.symm; omega
  have hblk := hg.block b hb hne
  refine ⟨b, off, e, Nat.lt_of_lt_of_le hb hg.size, fun j hj => ?_⟩
  rw [← hc j hj]
  simp [World.cell?, hblk]
theorem RndJ.visit {bx bb n c : Nat} {A : Option Addr} {zs : List Int} {s s' : Int} {W W' : World} (h : RndJ bx bb A n c zs s W) (hg : W.grownBy W' (some bx)) (hx : Boxed W' bx 3 (.int .i64 s')) (hA : ∀ b off, A = some ⟨b, off, none⟩ → b ≠ bx) : RndJ bx bb A n c zs s' W' := by
  refine ⟨hx, h.b.kept hg (fun e => h.ne (by injection e)), ⟨h.rd.1, fun hn => ?_⟩, h.ne⟩
  obtain ⟨b, off, e, hb, hc⟩ := h.rd.2 hn
  have hblk := hg.block b hb (fun e2 => hA b off e (by injection e2))
  refine ⟨b, off, e, Nat.lt_of_lt_of_le hb hg.size, fun j hj => ?_⟩
  rw [← hc j hj]
  simp [World.cell?, hblk]
/-- What PartRound tells. -/
noncomputable def rndB (xs : List Int) : Int := if bundleB xs = true then rndP (cloQ xs) (fun p => xs.getD p 0) xs.length else 0
theorem rndB_yes {xs : List Int} (h : bundleB xs = true) : rndB xs = rndP (cloQ xs) (fun p => xs.getD p 0) xs.length := by unfold rndB; rw [if_pos h]
theorem rndB_no {xs : List Int} (h : bundleB xs = false) : rndB xs = 0 := by unfold rndB; rw [h]; rfl

set_option maxRecDepth 100000 in
set_option maxHeartbeats 2000000 in
theorem implPartRound_any (A : Option Addr) (n c : Nat) (xs : List Int) (w : World) (h : Rd w A n xs) (hn : n ≤ 1048576) :
    Calls Try.prog 20 #[.slice A n c] w fun e w' => e = .returned (.tuple #[.int .i64 (rndB xs), .bool (bundleB xs)]) ∧ Below w.heap.size w w' := by
  have hb1 : Below w.heap.size w (w.alloc (.cells #[.slice A n c] 39)) := below_alloc (Below.refl _ _) _
  have hbb : Boxed (w.alloc (.cells #[.slice A n c] 39)) w.heap.size 39 (.slice A n c) := Boxed.new w 39 (.slice A n c)
  have c0 := hbb.cell
  by_cases hb : bundleB xs = true
  · have HM := Lib.hid (rndB_yes hb)
    have HB := Lib.hid hb
    have hbd := bundleB_true hb
    have hn9 : n ≤ 9 := by rw [← h.1]; exact hbd.2.1
    have hn1 : 1 ≤ n := by rw [← h.1]; exact hbd.1
    have hz := hbd.2.2.1
    rw [h.1] at hz HM
    obtain ⟨b, off, rfl, hbl, _⟩ := h.2 hn1
    have HZ := Lib.hid hz
    have HR := Lib.hid h
    have HB1 := Lib.hid hb1
    have HBB := Lib.hid hbb
    have hs1 : (w.alloc (.cells #[.slice (some ⟨b, off, none⟩) n c] 39)).heap.size = w.heap.size + 1 := by simp
    have HS1 := Lib.hid hs1
    have HV := Lib.hid (valid_any (some ⟨b, off, none⟩) n c xs _ (h.same hb1) hn)
    clear hb hbd hz h hb1 hbb hs1
    go_enter Try.func20, Try.ntmps20
    go_wp2_with fail
    refine HV.out.mono ?_
    rintro e w1 ⟨rfl, b1⟩
    rw [HB.out]
    have hbb1 := Boxed.same_ HBB.out b1
    have c1 := hbb1.cell
    have q1 := b1.size
    rw [HS1.out] at q1
    have hb2 : Below w1.heap.size w1 (w1.alloc (.cells #[.int .i64 0] 3)) := below_alloc (Below.refl _ _) _
    have hbx : Boxed (w1.alloc (.cells #[.int .i64 0] 3)) w1.heap.size 3 (.int .i64 0) := Boxed.new w1 3 (.int .i64 0)
    have hbb2 := Boxed.same_ hbb1 hb2
    have c2 := hbb2.cell
    have hbelow : Below w.heap.size w (w1.alloc (.cells #[.int .i64 0] 3)) := below_then (below_then HB1.out b1) hb2
    have hJ0 : RndJ w1.heap.size w.heap.size (some ⟨b, off, none⟩) n c xs 0 (w1.alloc (.cells #[.int .i64 0] 3)) := ⟨hbx, hbb2, HR.out.same hbelow, by omega⟩
    have hsz2 : (w1.alloc (.cells #[.int .i64 0] 3)).heap.size = w1.heap.size + 1 := by simp
    have HV := Lib.hid (visitParts_any w w.heap.size w1.heap.size (RndJ w1.heap.size w.heap.size (some ⟨b, off, none⟩) n c xs) (accR xs n) 0 53 #[.pointer (some ⟨w1.heap.size, 0, none⟩), .pointer (some ⟨w.heap.size, 0, none⟩)] b off n c xs (w1.alloc (.cells #[.int .i64 0] 3)) (HR.out.same hbelow) hn1 hn9 HZ.out
      (fun s W W' hj row hg hr => hj.kept hg (B := (w1.alloc (.cells #[.int .i64 0] 3)).heap.size) (fun b' off' e => by simp only [Option.some.injEq, Addr.mk.injEq] at e; omega) (by omega) (by omega) hr) ⟨by omega, by omega⟩ (by omega) hbelow hJ0
      (fun l s W b' off' c' hp hR hj => (partRound1_any w1.heap.size w.heap.size b' off' n c' c _ xs l s W hR hn1 hn9 HZ.out hj.x hj.b hj.rd).mono fun e w' hh => ⟨hh.1, hj.visit hh.2.2 hh.2.1 (fun b' off' e => by simp only [Option.some.injEq, Addr.mk.injEq] at e; omega), hh.2.2⟩) (enters_of Try.func53 (by kernel_rfl) rfl))
    have HQ := Lib.hid q1
    clear hb2 hbx b1 hbb1 hbb2 hbelow hJ0 hsz2
    go_wp2_with fail
    refine HV.out.mono ?_
    rintro e w2 ⟨rfl, hj2, b2⟩
    rw [show (visP 0 (noP n) (triP (cloQ xs) n)).foldl (accR xs n) 0 = rndB xs from HM.out.symm] at hj2
    have hc := hj2.x.cell
    have HB2 := Lib.hid b2
    clear hj2 b2
    go_wp2_with fail
    go_ret2
    exact ⟨ret_ib2 HB.out, HB2.out⟩
  · rw [Bool.not_eq_true] at hb
    have HM := Lib.hid (rndB_no hb)
    have HB := Lib.hid hb
    have HV := Lib.hid (valid_any A n c xs _ (h.same hb1) hn)
    have HB1 := Lib.hid hb1
    clear hb h hb1 hbb
    go_enter Try.func20, Try.ntmps20
    go_wp2_with fail
    refine HV.out.mono ?_
    rintro e w1 ⟨rfl, b1⟩
    rw [HB.out]
    have HB2 := Lib.hid (below_then HB1.out b1)
    clear b1
    go_wp2_with fail
    go_ret2
    exact ⟨by rw [HB.out, HM.out]; rfl, HB2.out⟩
end Go.Proofs.Ytiadnbdefcimiaa

/- The program's number of ways with equal sums: PartEqual. -/
namespace Go.Proofs.Ytiadnbdefcimiaa
open Go.RowKit Go.Sort Go.Lib Go.Shelf

/-- All threes of sticks have the sum of the first one. -/
def evnL (zs l : List Int) (m : Nat) : Bool := (List.range m).all fun k => decide (sumL (stkL zs l (k : Int)) = sumL (stkL zs l 0))
theorem evnL_iff {zs l : List Int} {m : Nat} : evnL zs l m = true ↔ ∀ k, k < m → sumL (stkL zs l (k : Int)) = sumL (stkL zs l 0) := by
  unfold evnL
  rw [List.all_eq_true]
  constructor
  · intro h k hk; simpa using h k (List.mem_range.2 hk)
  · intro h k hk; simpa using h k (List.mem_range.1 hk)
theorem evnL_no {zs l : List Int} {m k : Nat} (hk : k < m) (h : sumL (stkL zs l (k : Int)) ≠ sumL (stkL zs l 0)) : evnL zs l m = false := by
  cases hx : evnL zs l m with
  | false => rfl
  | true => exact absurd (evnL_iff.1 hx k hk) h
theorem evnL_is {zs l : List Int} {n M : Nat} (h : PL (cloQ zs) n l M) : evnL zs l M = evnB (fun p => zs.getD p 0) l := by
  unfold evnB
  rw [Bool.eq_iff_iff, evnL_iff, evP_iff h]
  constructor
  · intro hh k hk; have := hh k hk; rwa [stk_sum, stk_sum] at this
  · intro hh k hk; have := hh k hk; rwa [stk_sum, stk_sum]

set_option maxRecDepth 100000 in
set_option maxHeartbeats 4000000 in
theorem even_any (A A2 : Option Addr) (n c n2 c2 M : Nat) (l zs : List Int) (w : World) (h : Rd w A n l) (h2 : Rd w A2 n2 zs) (hnn : n ≤ n2) (hn1 : 1 ≤ n) (hn : n ≤ 9) (hl : ∀ j, j < l.length → -1 ≤ l.getD j 0 ∧ l.getD j 0 ≤ 1000) (hM : thrL l = M) (hM9 : M ≤ 9) (hz : ∀ j, j < n2 → 1 ≤ zs.getD j 0 ∧ zs.getD j 0 ≤ 60) :
    Calls Try.prog 79 #[.slice A n c, .slice A2 n2 c2] w fun e w' => e = .returned (.bool (evnL zs l M)) ∧ Below w.heap.size w w' := by
  have HT := Lib.hid (threes_any A n c l w h hn1 (by omega) hl)
  have HLN := Lib.hid h.1
  have hz0 : ∀ j, j < l.length → 1 ≤ zs.getD j 0 ∧ zs.getD j 0 ≤ 60 := fun j hj => hz j (by have := h.1; omega)
  have HK := Lib.hid (fun (k : Int) W' (hb : Below w.heap.size w W') => stickL_any A A2 n c n2 c2 l zs k W' (h.same hb) (h2.same hb) hnn (by omega))
  have HS := Lib.hid (fun (k : Int) (A' : Option Addr) (c' B : Nat) W' (h : Own W' B A' (stkL zs l k).length c' (stkL zs l k)) => implSum_any A' (stkL zs l k).length c' (stkL zs l k) W' h.rd (by have := stk_len zs l k; have := HLN.out; omega) (stk_small hz0))
  rw [hM] at HT
  clear h h2 hl hM hz hz0
  go_enter Try.func79, Try.ntmps79
  go_wp2_with fail
  refine HT.out.mono ?_
  rintro e w1 ⟨rfl, b1⟩
  have HB1 := Lib.hid b1
  clear b1
  go_wp2_with fail
  go_loopw [5, 8] (fun _ i wr => ∃ k : Nat, k ≤ M ∧ i = .int .i64 k ∧ (∀ j, j < k → sumL (stkL zs l (j : Int)) = sumL (stkL zs l 0)) ∧ Below w.heap.size w wr) (fun _ i _ => M - (intOf i).toNat)
  case atStart => exact ⟨0, Nat.zero_le _, rfl, fun j hj => absurd hj (by omega), HB1.out⟩
  case round =>
    obtain ⟨k, hk, rfl, hup, hb⟩ := hrel
    have HU := Lib.hid hup
    clear hup
    by_cases hlt : k < M
    · have HK1 := Lib.hid (fun W' (hb : Below w.heap.size w W') => HK.out (k : Int) W' hb)
      have HK2 := Lib.hid (fun W' (hb : Below w.heap.size w W') => HK.out 0 W' hb)
      have HS1 := Lib.hid (fun A' c' B W' h => HS.out (k : Int) A' c' B W' h)
      have HS2 := Lib.hid (fun A' c' B W' h => HS.out 0 A' c' B W' h)
      have HNO := Lib.hid (fun h => evnL_no (zs := zs) (l := l) hlt h)
      have HYES := Lib.hid (fun (h : sumL (stkL zs l (k : Int)) = sumL (stkL zs l 0)) j (hj : j < k + 1) => (show sumL (stkL zs l (j : Int)) = sumL (stkL zs l 0) by
        by_cases e : j = k
        · rw [e]; exact h
        · exact HU.out j (by omega)))
      obtain ⟨z1, e1⟩ : ∃ z, z = sumL (stkL zs l (k : Int)) := ⟨_, rfl⟩
      obtain ⟨z2, e2⟩ : ∃ z, z = sumL (stkL zs l 0) := ⟨_, rfl⟩
      rw [← e1] at HS1 HNO HYES
      rw [← e2] at HS2 HNO HYES
      obtain ⟨K1, k1⟩ : ∃ z, z = stkL zs l (k : Int) := ⟨_, rfl⟩
      obtain ⟨K2, k2⟩ : ∃ z, z = stkL zs l 0 := ⟨_, rfl⟩
      rw [← k1] at HS1 HK1
      rw [← k2] at HS2 HK2
      have HB := Lib.hid hb
      have E2 := Lib.hid e2
      clear e1 e2 k1 k2 hb
      go_wp2_with fail
      refine (HK1.out wr HB.out).mono ?_
      rintro e w2 ⟨⟨A2', c2', rfl, o2⟩, b2⟩
      have HO2 := Lib.hid (HS1.out _ _ _ _ o2)
      have HB2 := Lib.hid (below_then HB.out b2)
      clear o2 b2
      go_wp2_with fail
      refine HO2.out.mono ?_
      rintro e w3 ⟨rfl, b3⟩
      have HB3 := Lib.hid (below_then HB2.out b3)
      clear b3
      go_wp2_with fail
      refine (HK2.out w3 HB3.out).mono ?_
      rintro e w4 ⟨⟨A4, c4, rfl, o4⟩, b4⟩
      have HO4 := Lib.hid (HS2.out _ _ _ _ o4)
      have HB4 := Lib.hid (below_then HB3.out b4)
      clear o4 b4
      go_wp2_with fail
      refine HO4.out.mono ?_
      rintro e w5 ⟨rfl, b5⟩
      have HB5 := Lib.hid (below_then HB4.out b5)
      clear b5
      by_cases hq : z1 = z2
      · have HY := Lib.hid (HYES.out hq)
        have E3 := Lib.hid (hq.trans E2.out)
        clear E2
        subst hq
        clear HNO HYES
        go_wp2_with fail
        go_roundw
        case rel => exact ⟨k + 1, by omega, by go_num, fun j hj => (HY.out j hj).trans E3.out, HB5.out⟩
        case measure => simp [intOf]; omega
      · have HN := Lib.hid (HNO.out hq)
        have d1 : (z1 != z2) = true := by simpa using hq
        clear HNO HYES
        go_wp2_with fail
        go_ret
        exact ⟨ret_b HN.out.symm, HB5.out⟩
    · obtain rfl : k = M := by omega
      have HY := Lib.hid (evnL_iff.2 HU.out)
      go_wp2_with fail
      go_ret
      exact ⟨ret_b HY.out.symm, hb⟩
/-- One way more with equal sums. -/
def accE (zs : List Int) (s : Int) (l : List Int) : Int := if (whlB l && evnB (fun p => zs.getD p 0) l) = true then IntKind.i64.wrap (s + 1) else s
theorem accE_all (zs : List Int) : ∀ (L : List (List Int)) (s : Nat), s + L.countP (fun l => whlB l && evnB (fun p => zs.getD p 0) l) ≤ 1000000 → L.foldl (accE zs) (s : Int) = ((s + L.countP (fun l => whlB l && evnB (fun p => zs.getD p 0) l) : Nat) : Int)
  | [], s, _ => by simp
  | l :: L, s, h => by
    rw [List.foldl_cons]
    rw [List.countP_cons] at h ⊢
    by_cases hw : (whlB l && evnB (fun p => zs.getD p 0) l) = true
    · rw [if_pos hw] at h ⊢
      rw [show accE zs (s : Int) l = ((s + 1 : Nat) : Int) by unfold accE; rw [if_pos hw]; exact wrap_is (by omega) (by omega) (by omega), accE_all zs L (s + 1) (by omega)]
      congr 1; omega
    · rw [if_neg hw] at h ⊢
      rw [show accE zs (s : Int) l = (s : Int) by unfold accE; rw [if_neg hw], accE_all zs L s (by omega), Nat.add_zero]
set_option maxRecDepth 100000 in
set_option maxHeartbeats 4000000 in
theorem partEqual1_any (bx bb b off n c cz M : Nat) (A : Option Addr) (zs l : List Int) (s : Int) (W : World) (hR : Rd W (some ⟨b, off, none⟩) n l) (hn1 : 1 ≤ n) (hn : n ≤ 9) (hz : ∀ j, j < n → 1 ≤ zs.getD j 0 ∧ zs.getD j 0 ≤ 60) (hp : PL (cloQ zs) n l M)
    (hx : Boxed W bx 3 (.int .i64 s)) (hbb : Boxed W bb 39 (.slice A n cz)) (hA : Rd W A n zs) :
    Calls Try.prog 78 #[.slice (some ⟨b, off, none⟩) n c, .pointer (some ⟨bb, 0, none⟩), .pointer (some ⟨bx, 0, none⟩)] W fun e w' => e = .returned (.tuple #[]) ∧ Boxed w' bx 3 (.int .i64 (accE zs s l)) ∧ W.grownBy w' (some bx) := by
  have HW := Lib.hid (whole_any (some ⟨b, off, none⟩) n c l W hR (by omega))
  have hM9 : M ≤ 9 := by have := hp.le; omega
  have HE := Lib.hid (fun W' (hb : Below W.heap.size W W') => even_any (some ⟨b, off, none⟩) A n c n cz M l zs W' (hR.same hb) (hA.same hb) (Nat.le_refl _) hn1 hn (pl_small hn ⟨_, hp⟩) hp.threes hM9 hz)
  have HA := Lib.hid (show accE zs s l = if (whlB l && evnL zs l M) = true then IntKind.i64.wrap (s + 1) else s by rw [evnL_is hp]; rfl)
  have HX := Lib.hid hx
  have HBX := Lib.hid hbb
  generalize hw : whlB l = bw at *
  generalize hev : evnL zs l M = be at *
  obtain ⟨z, ez⟩ : ∃ z, z = IntKind.i64.wrap (s + 1) := ⟨_, rfl⟩
  rw [← ez] at HA
  have v1 := ez.symm
  clear ez hR hp hA hz hx hbb hw hev
  cases bw with
  | false =>
    go_enter Try.func78, Try.ntmps78
    go_wp2_with fail
    refine HW.out.mono ?_
    rintro e w2 ⟨rfl, b2⟩
    have HB2 := Lib.hid (Boxed.same_ HX.out b2)
    have HG := Lib.hid (grown_weak (grown_of_below b2) (some bx))
    clear b2
    go_wp2_with fail
    go_end0
    exact ⟨rfl, by rw [HA.out]; exact HB2.out, HG.out⟩
  | true =>
    go_enter Try.func78, Try.ntmps78
    go_wp2_with fail
    refine HW.out.mono ?_
    rintro e w2 ⟨rfl, b2⟩
    have q2 := (Boxed.same_ HBX.out b2).cell
    have HB2 := Lib.hid b2
    clear b2
    go_wp2_with fail
    refine (HE.out w2 HB2.out).mono ?_
    rintro e w3 ⟨rfl, b3⟩
    have hb3 := below_then HB2.out b3
    have hx3 := Boxed.same_ HX.out hb3
    have q3 := hx3.cell
    have qf := hx3.frozen
    have HB3 := Lib.hid hx3
    have HG := Lib.hid (grown_weak (grown_of_below hb3) (some bx))
    clear b3 hb3 hx3 q2
    cases be with
    | true =>
      go_wp2_with fail
      go_end0
      exact ⟨rfl, by rw [HA.out]; exact HB3.out.set _, HG.out.trans (grownBy_setCell' _ _ _)⟩
    | false =>
      go_wp2_with fail
      go_end0
      exact ⟨rfl, by rw [HA.out]; exact HB3.out, HG.out⟩
/-- What PartEqual tells. -/
noncomputable def eqlB (xs : List Int) : Int := if bundleB xs = true then (evnP (cloQ xs) (fun p => xs.getD p 0) xs.length : Int) else 0
theorem eqlB_yes {xs : List Int} (h : bundleB xs = true) : eqlB xs = (evnP (cloQ xs) (fun p => xs.getD p 0) xs.length : Int) := by unfold eqlB; rw [if_pos h]
theorem eqlB_no {xs : List Int} (h : bundleB xs = false) : eqlB xs = 0 := by unfold eqlB; rw [h]; rfl

set_option maxRecDepth 100000 in
set_option maxHeartbeats 2000000 in
theorem implPartEqual_any (A : Option Addr) (n c : Nat) (xs : List Int) (w : World) (h : Rd w A n xs) (hn : n ≤ 1048576) :
    Calls Try.prog 40 #[.slice A n c] w fun e w' => e = .returned (.tuple #[.int .i64 (eqlB xs), .bool (bundleB xs)]) ∧ Below w.heap.size w w' := by
  have hb1 : Below w.heap.size w (w.alloc (.cells #[.slice A n c] 39)) := below_alloc (Below.refl _ _) _
  have hbb : Boxed (w.alloc (.cells #[.slice A n c] 39)) w.heap.size 39 (.slice A n c) := Boxed.new w 39 (.slice A n c)
  have c0 := hbb.cell
  by_cases hb : bundleB xs = true
  · have HM := Lib.hid (eqlB_yes hb)
    have HB := Lib.hid hb
    have hbd := bundleB_true hb
    have hn9 : n ≤ 9 := by rw [← h.1]; exact hbd.2.1
    have hn1 : 1 ≤ n := by rw [← h.1]; exact hbd.1
    have hz := hbd.2.2.1
    rw [h.1] at hz HM
    obtain ⟨b, off, rfl, hbl, _⟩ := h.2 hn1
    have HZ := Lib.hid hz
    have hA := accE_all xs (visP 0 (noP n) (triP (cloQ xs) n)) 0 (by rw [evn_is hn1, Nat.zero_add]; have := evnP_le (Q := cloQ xs) hn1 (fun p => xs.getD p 0); have := wayP_le (Q := cloQ xs) hn9; omega)
    rw [evn_is hn1, Nat.zero_add] at hA
    have HAA := Lib.hid hA
    clear hA
    have HR := Lib.hid h
    have HB1 := Lib.hid hb1
    have HBB := Lib.hid hbb
    have hs1 : (w.alloc (.cells #[.slice (some ⟨b, off, none⟩) n c] 39)).heap.size = w.heap.size + 1 := by simp
    have HS1 := Lib.hid hs1
    have HV := Lib.hid (valid_any (some ⟨b, off, none⟩) n c xs _ (h.same hb1) hn)
    clear hb hbd hz h hb1 hbb hs1
    go_enter Try.func40, Try.ntmps40
    go_wp2_with fail
    refine HV.out.mono ?_
    rintro e w1 ⟨rfl, b1⟩
    rw [HB.out]
    have hbb1 := Boxed.same_ HBB.out b1
    have c1 := hbb1.cell
    have q1 := b1.size
    rw [HS1.out] at q1
    have hb2 : Below w1.heap.size w1 (w1.alloc (.cells #[.int .i64 0] 3)) := below_alloc (Below.refl _ _) _
    have hbx : Boxed (w1.alloc (.cells #[.int .i64 0] 3)) w1.heap.size 3 (.int .i64 0) := Boxed.new w1 3 (.int .i64 0)
    have hbb2 := Boxed.same_ hbb1 hb2
    have c2 := hbb2.cell
    have hbelow : Below w.heap.size w (w1.alloc (.cells #[.int .i64 0] 3)) := below_then (below_then HB1.out b1) hb2
    have hJ0 : RndJ w1.heap.size w.heap.size (some ⟨b, off, none⟩) n c xs 0 (w1.alloc (.cells #[.int .i64 0] 3)) := ⟨hbx, hbb2, HR.out.same hbelow, by omega⟩
    have hsz2 : (w1.alloc (.cells #[.int .i64 0] 3)).heap.size = w1.heap.size + 1 := by simp
    have HV := Lib.hid (visitParts_any w w.heap.size w1.heap.size (RndJ w1.heap.size w.heap.size (some ⟨b, off, none⟩) n c xs) (accE xs) 0 78 #[.pointer (some ⟨w.heap.size, 0, none⟩), .pointer (some ⟨w1.heap.size, 0, none⟩)] b off n c xs (w1.alloc (.cells #[.int .i64 0] 3)) (HR.out.same hbelow) hn1 hn9 HZ.out
      (fun s W W' hj row hg hr => hj.kept hg (B := (w1.alloc (.cells #[.int .i64 0] 3)).heap.size) (fun b' off' e => by simp only [Option.some.injEq, Addr.mk.injEq] at e; omega) (by omega) (by omega) hr) ⟨by omega, by omega⟩ (by omega) hbelow hJ0
      (fun l s W b' off' c' hp hR hj => hp.elim fun M hp => (partEqual1_any w1.heap.size w.heap.size b' off' n c' c M _ xs l s W hR hn1 hn9 HZ.out hp hj.x hj.b hj.rd).mono fun e w' hh => ⟨hh.1, hj.visit hh.2.2 hh.2.1 (fun b' off' e => by simp only [Option.some.injEq, Addr.mk.injEq] at e; omega), hh.2.2⟩) (enters_of Try.func78 (by kernel_rfl) rfl))
    have HQ := Lib.hid q1
    clear hb2 hbx b1 hbb1 hbb2 hbelow hJ0 hsz2
    go_wp2_with fail
    refine HV.out.mono ?_
    rintro e w2 ⟨rfl, hj2, b2⟩
    rw [show (visP 0 (noP n) (triP (cloQ xs) n)).foldl (accE xs) 0 = eqlB xs by rw [HM.out]; exact HAA.out] at hj2
    have hc := hj2.x.cell
    have HB2 := Lib.hid b2
    clear hj2 b2
    go_wp2_with fail
    go_ret2
    exact ⟨ret_ib2 HB.out, HB2.out⟩
  · rw [Bool.not_eq_true] at hb
    have HM := Lib.hid (eqlB_no hb)
    have HB := Lib.hid hb
    have HV := Lib.hid (valid_any A n c xs _ (h.same hb1) hn)
    have HB1 := Lib.hid hb1
    clear hb h hb1 hbb
    go_enter Try.func40, Try.ntmps40
    go_wp2_with fail
    refine HV.out.mono ?_
    rintro e w1 ⟨rfl, b1⟩
    rw [HB.out]
    have HB2 := Lib.hid (below_then HB1.out b1)
    clear b1
    go_wp2_with fail
    go_ret2
    exact ⟨by rw [HB.out, HM.out]; rfl, HB2.out⟩
end Go.Proofs.Ytiadnbdefcimiaa
