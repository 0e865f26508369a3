/- Joined: Facts, Base, Calc1, Kit, App. -/
import Derived.Test.YtiadnbdefcimiaaRows
import Derived.JoinedOf
import Derived.KernelRfl
import Derived.WalkKit
import Derived.WalkSpells
import Derived.WalkLawsBesides
import Derived.ProofKit
import Derived.OpenShut
import Derived.ShutString
import Derived.ChangeOld
import Derived.Below
import Derived.IntWalk
import Derived.BigQuiet
import Derived.BigRegion
import Derived.Deep.RegionHeld3
import Derived.Deep.RegionWith
import Derived.Deep.QuietTactic
import Derived.Lib.Hide
import Derived.Laws.OwnMore
import Derived.Deep.AppendLies
import Derived.Deep.Draws
import Derived.Maps.AppendAt
import Derived.RegionTactic
import Derived.OwnWalk
import Derived.Outline
/- Closed facts on this translation that every statement of the seat asks: its head's words are read once, so that the kernel need not run over the head for each statement. -/
namespace Go.Proofs.Ytiadnbdefcimiaa
open Go
theorem chars_of {s : String} {l : List Char} (h : s = String.ofList l) : s.toList = l := by subst h; exact String.toList_ofList
theorem strip_cut (r : List (List Char)) : stripLifts liftWords ("cut".toList :: r) = ([], "cut".toList :: r) := by
  simp [stripLifts, liftWords]
theorem mayEnter_of (P : Program) (r : List (List Char)) (h : behindMainWord (wordsSigns P.initOrder.toList) = "cut".toList :: r) (h1 : P.laysLater = false) (h2 : P.bearsReflect = false) (h3 : P.doorFits [] = true) : P.mayEnter = true := by
  unfold Program.mayEnter
  rw [h]
  simp only [strip_cut, h1, h2, h3]
  simp
theorem headLifts_of (P : Program) (r : List (List Char)) (h : behindMainWord (wordsSigns P.initOrder.toList) = "cut".toList :: r) : P.headLifts = [] := by
  unfold Program.headLifts
  rw [h]
  simp only [strip_cut]
  simp
theorem liftsFinal_of (P : Program) (r : List (List Char)) (h : behindMainWord (wordsSigns P.initOrder.toList) = "cut".toList :: r) : P.liftsFinal = false := by
  unfold Program.liftsFinal
  rw [headLifts_of P r h, h]
  simp
theorem make_of (P : Program) (r : List (List Char)) (h : behindMainWord (wordsSigns P.initOrder.toList) = "cut".toList :: r) : P.make = some .cut := by
  unfold Program.make
  rw [h]
  simp
theorem cut_of {l : List (List Char)} (h : l.head? = some "cut".toList) : ∃ r, l = "cut".toList :: r := by
  cases l with
  | nil => cases h
  | cons a r => exact ⟨r, by simp at h; rw [h]; simp⟩
set_option maxRecDepth 100000 in
theorem headIsCut : (behindMainWord (wordsSigns Try.prog.initOrder.toList)).head? = some "cut".toList := by
  rw [chars_of (s := Try.prog.initOrder) rfl]
  kernel_rfl
theorem mayF : Try.prog.mayEnter = true := by
  obtain ⟨r, hr⟩ := cut_of headIsCut
  exact mayEnter_of _ r hr (by kernel_rfl) (by kernel_rfl) (by kernel_rfl)
theorem liftF (c : OpenClaim) (h : c.lifted = false) : (c.lifted == Try.prog.liftsFinal) = true := by
  obtain ⟨r, hr⟩ := cut_of headIsCut
  rw [liftsFinal_of _ r hr, h]
  rfl
theorem makeF (c : OpenClaim) (h : c.make = .cut) : (Try.prog.make == some c.make) = true := by
  obtain ⟨r, hr⟩ := cut_of headIsCut
  rw [make_of _ r hr, h]
  rfl
theorem ownF : ownKnob Try.prog.godebug = none := by kernel_rfl
theorem laidF : laidOutB Try.prog = true := by kernel_rfl
theorem rowedF : mapsRowed Try.prog = true := by kernel_rfl
theorem heardF : Try.prog.stopsHeard = true := by kernel_rfl
theorem bandF {a b : Bool} (h1 : a = true) (h2 : b = true) : (a && b) = true := by rw [h1, h2]; rfl
end Go.Proofs.Ytiadnbdefcimiaa

/- The words on memory that all texts of this seat share: a slice of ints that reads as a list; what is kept below a block. -/
namespace Go.Proofs.Ytiadnbdefcimiaa
open Go.RowKit

theorem ret_b {a b : Bool} (h : a = b) : Ending.returned (.bool a) = .returned (.bool b) := by rw [h]
theorem ret_i {k : IntKind} {a b : Int} (h : a = b) : Ending.returned (.int k a) = .returned (.int k b) := by rw [h]
theorem ret_sl {A : Option Addr} {m n c : Nat} (h : m = n) : Ending.returned (.slice A m c) = .returned (.slice A n c) := by rw [h]
abbrev ints (xs : List Int) : List Value := xs.map (Value.int .i64)

theorem quiet_left {P : Program} {f : FuncId} {args : Array Value} {w : World} {n : Nat} {v : Value}
    (h : Calls P f args (w.drewN n) fun e w' => e = .returned v ∧ w.drewN n = w') : Calls P f args (w.drewN n) fun e w'' => e = .returned v ∧ ∃ m, w'' = w.drewN m :=
  h.mono fun _ _ ⟨he, hm⟩ => ⟨he, n, hm.symm⟩
theorem quiet_add_left {P : Program} {f : FuncId} {args : Array Value} {w : World} {a n : Nat} {v : Value}
    (h : Calls P f args (w.drewN (a + n)) fun e w' => e = .returned v ∧ w.drewN (a + n) = w') :
    Calls P f args (w.drewN (a + n)) fun e w'' => e = .returned v ∧ ∃ m, w'' = w.drewN (a + m) :=
  h.mono fun _ _ ⟨he, hm⟩ => ⟨he, n, hm.symm⟩
theorem below_drewN {B : Nat} {a w : World} (h : Below B a w) (n : Nat) : Below B a (w.drewN n) := ⟨h.os, h.tape, h.output, h.size, h.block⟩

/-- The slice value '.slice A n c' reads as the numbers xs. -/
def Rd (w : World) (A : Option Addr) (n : Nat) (xs : List Int) : Prop :=
  xs.length = n ∧ (0 < n → ∃ b off, A = some ⟨b, off, none⟩ ∧ b < w.heap.size ∧ ∀ j, j < n → w.cell? ⟨b, off + j, none⟩ = some (.int .i64 (xs.getD j 0)))

theorem Rd.nil_ (w : World) (A : Option Addr) : Rd w A 0 [] := ⟨rfl, fun h => absurd h (by omega)⟩
theorem Rd.below {w w' : World} {A : Option Addr} {n B : Nat} {xs : List Int} (h : Rd w A n xs) (hB : w.heap.size ≤ B) (hb : Below B w w') : Rd w' A n xs :=
  ⟨h.1, fun hn => by
    obtain ⟨b, off, rfl, hlt, hc⟩ := h.2 hn
    exact ⟨b, off, rfl, Nat.lt_of_lt_of_le hlt hb.size, fun j hj => (hb.cell (p := ⟨b, off + j, none⟩) (by show b < B; omega)).trans (hc j hj)⟩⟩
theorem Rd.same {w w' : World} {A : Option Addr} {n : Nat} {xs : List Int} (h : Rd w A n xs) (hb : Below w.heap.size w w') : Rd w' A n xs := h.below (Nat.le_refl _) hb
theorem Rd.at_ {w : World} {A : Option Addr} {n : Nat} {xs : List Int} (h : Rd w A n xs) (hn : 0 < n) : ∃ b off, A = some ⟨b, off, none⟩ ∧ b < w.heap.size ∧ ∀ j, j < n → w.cell? ⟨b, off + j, none⟩ = some (.int .i64 (xs.getD j 0)) := h.2 hn

/-- Each number fits its kind. -/
def WfL (k : IntKind) (xs : List Int) : Prop := ∀ x ∈ xs, (Lit.int k x).wf = true

theorem Rd.of_row {w : World} {x : Addr} {n : Nat} {zs : List Int} (hn : n ≤ zs.length) (hc : ∀ i, i < zs.length → w.cell? (x.add i) = some (.int .i64 (zs.getD i 0))) : Rd w (some x) n (zs.take n) := by
  refine ⟨by simp; omega, fun h => ?_⟩
  obtain ⟨b, off, spot⟩ := x
  have h0 := hc 0 (by omega)
  have hs : spot = none := by simpa [Addr.add] using World.cell?_spot h0
  subst hs
  refine ⟨b, off, rfl, by simpa [Addr.add] using World.block_lt_of_cell? _ _ h0, fun j hj => ?_⟩
  have hj' := hc j (by omega)
  have e : (zs.take n).getD j 0 = zs.getD j 0 := by simp [List.getD_eq_getElem?_getD, hj]
  rw [e]
  by_cases hj0 : j = 0
  · subst hj0; simpa [Addr.add] using hj'
  · simpa [Addr.add, hj0] using hj'

/-- The slice value '.slice A n c' is the call's own row (a block from B on, or nil) and holds the numbers xs. -/
def Own (w : World) (B : Nat) (A : Option Addr) (n c : Nat) (xs : List Int) : Prop := w.ownsRow B 3 1 (.slice A n c) n (ints xs)

theorem Own.len {w : World} {B n c : Nat} {A : Option Addr} {xs : List Int} (h : Own w B A n c xs) : xs.length = n := by simpa using h.1
theorem Own.form {w : World} {B n c : Nat} {A : Option Addr} {xs : List Int} (h : Own w B A n c xs) (hn : 0 < n) : ∃ g, A = some ⟨g, 0, none⟩ ∧ B ≤ g ∧ g < w.heap.size := by
  rcases h.2 with ⟨_, rfl⟩ | ⟨g, cap, cur, hv, hb, hh, _⟩
  · omega
  · have hA : A = some ⟨g, 0, none⟩ := by injection hv
    exact ⟨g, hA, hb, (Array.getElem?_eq_some_iff.1 hh).1⟩
theorem add0 (g j : Nat) : (⟨g, 0, none⟩ : Addr).add j = ⟨g, j, none⟩ := by unfold Addr.add; split <;> simp_all
theorem ints_get (xs : List Int) (j : Nat) (h : j < xs.length) : (ints xs)[j]? = some (.int .i64 (xs.getD j 0)) := by simp [h]
theorem Own.cell {w : World} {B n c g : Nat} {xs : List Int} (h : Own w B (some ⟨g, 0, none⟩) n c xs) (j : Nat) (hj : j < n) : w.cell? ⟨g, j, none⟩ = some (.int .i64 (xs.getD j 0)) := by
  have := World.ownsRow.cellAt h j (by omega)
  rw [this]; exact ints_get xs j (by rw [h.len]; exact hj)
theorem Own.rd {w : World} {B n c : Nat} {A : Option Addr} {xs : List Int} (h : Own w B A n c xs) : Rd w A n xs := by
  refine ⟨h.len, fun hn => ?_⟩
  obtain ⟨g, rfl, _, hlt⟩ := h.form hn
  exact ⟨g, 0, rfl, hlt, fun j hj => by rw [Nat.zero_add]; exact h.cell j hj⟩
theorem Own.row {w : World} {B n c : Nat} {A : Option Addr} {xs : List Int} (h : Own w B A n c xs) : ∀ k, (Value.slice A n c).ownBlock = some k → B ≤ k ∧ k < w.heap.size := World.ownsRow.lt h
theorem Own.far {w w' : World} {B n c : Nat} {A : Option Addr} {xs : List Int} {row : Option Nat} (h : Own w B A n c xs) (hg : w.grownBy w' row) (hr : ∀ k, row = some k → k < B ∨ w.heap.size ≤ k) : Own w' B A n c xs := by
  refine World.ownsRow.kept h hg ?_
  cases hb : (Value.slice A n c).ownBlock with
  | none => exact .inl rfl
  | some k =>
    refine .inr fun e => ?_
    have h1 := h.row k hb
    have h2 := hr k e.symm
    omega
theorem Own.stored {w : World} {B n c g : Nat} {xs : List Int} (h : Own w B (some ⟨g, 0, none⟩) n c xs) (j : Nat) (u : Int) :
    Own (w.setCell ⟨g, j, none⟩ (.int .i64 u)) B (some ⟨g, 0, none⟩) n c (xs.set j u) ∧ w.grownBy (w.setCell ⟨g, j, none⟩ (.int .i64 u)) (some g) := by
  have := World.ownsRow.stored h j (.int .i64 u)
  refine ⟨?_, this.2⟩
  have e : (ints xs).set j (.int .i64 u) = ints (xs.set j u) := by simp [ints, List.map_set]
  unfold Own
  rw [← e]
  exact this.1
theorem Own.free {w : World} {B n c g : Nat} {xs : List Int} (h : Own w B (some ⟨g, 0, none⟩) n c xs) (j : Nat) : w.frozen? ⟨g, j, none⟩ = false := World.ownsRow.frozenAt h j
theorem Own.blk {w : World} {B n c g : Nat} {xs : List Int} (h : Own w B (some ⟨g, 0, none⟩) n c xs) : B ≤ g ∧ g < w.heap.size := h.row g rfl
theorem getD_set (xs : List Int) (k j : Nat) (u : Int) (hk : k < xs.length) : (xs.set k u).getD j 0 = if j = k then u else xs.getD j 0 := by
  by_cases h : j = k
  · subst h; simp [hk]
  · simp [h, Ne.symm h, List.getD_eq_getElem?_getD]
theorem ext_getD {xs ys : List Int} (hl : xs.length = ys.length) (h : ∀ j, j < xs.length → xs.getD j 0 = ys.getD j 0) : xs = ys := by
  apply List.ext_getElem hl
  intro j h1 h2
  have := h j h1
  simpa [h1, h2] using this
theorem grown_of_below {w w' : World} (h : Below w.heap.size w w') : w.grownBy w' none := ⟨h.os, h.tape, h.output, h.size, fun k hk _ => h.block k hk⟩
theorem Own.same {w w' : World} {B n c : Nat} {A : Option Addr} {xs : List Int} (h : Own w B A n c xs) (hb : Below w.heap.size w w') : Own w' B A n c xs := h.far (grown_of_below hb) (fun k e => by cases e)
theorem Own.lower {w : World} {B B' n c : Nat} {A : Option Addr} {xs : List Int} (h : Own w B A n c xs) (hB : B' ≤ B) : Own w B' A n c xs := by
  refine ⟨h.1, ?_⟩
  rcases h.2 with hn | ⟨g, cap, cur, hv, hb, rest⟩
  · exact .inl hn
  · exact .inr ⟨g, cap, cur, hv, Nat.le_trans hB hb, rest⟩
theorem Rd.far {w w' : World} {A : Option Addr} {n : Nat} {xs : List Int} (h : Rd w A n xs) (hb : Below w.heap.size w w') : Rd w' A n xs := h.same hb
theorem below_row {w w' : World} {B : Nat} {row : Option Nat} (hg : w.grownBy w' row) (hB : B ≤ w.heap.size) (hr : ∀ k, row = some k → B ≤ k) : Below B w w' := (Below.refl B w).grown hg hB hr
theorem below_alloc {a w : World} (h : Below a.heap.size a w) (o : Obj) : Below a.heap.size a (w.alloc o) := h.alloc h.size o
theorem below_then {a b c : World} (h : Below a.heap.size a b) (k : Below b.heap.size b c) : Below a.heap.size a c := h.trans (k.mono h.size)
theorem wrap_is {a b : Int} (h : a = b) (h1 : -9223372036854775808 ≤ a) (h2 : a ≤ 9223372036854775807) : IntKind.i64.wrap a = b := by
  subst h; exact IntWalk.i64_in _ (by omega)
theorem app_mark {W W' : World} {A : Option Addr} {n c B : Nat} {w : World} {xs : List Int} (hb : Below w.heap.size w W) (ho : Own W B A n c xs) (hB : w.heap.size ≤ B) (hg : W.grownBy W' (Value.slice A n c).ownBlock) : Below w.heap.size w W' :=
  hb.grown hg hb.size (fun k e => by have := ho.row k e; omega)
theorem ret_lb {A : Option Addr} {n c : Nat} {a b : Bool} (h : b = a) : Ending.returned (.tuple #[.slice A n c, .bool a]) = .returned (.tuple #[.slice A n c, .bool b]) := by rw [h]
theorem intInfo : (Try.prog.info? 3).map (fun i => (i.zero, i.size, i.bytes)) = some (some (.int .i64 0), 1, 8) := by kernel_rfl
end Go.Proofs.Ytiadnbdefcimiaa

/- Contracts of the functions of chapter 1 that only compute with numbers. -/
namespace Go.Proofs.Ytiadnbdefcimiaa
open Go.RowKit

def inB (n lo hi : Int) : Bool := decide (lo ≤ n) && decide (n ≤ hi)
theorem inB_true {n lo hi : Int} (h : inB n lo hi = true) : lo ≤ n ∧ n ≤ hi := by simpa [inB] using h
theorem inB_mk {n lo hi : Int} (h1 : lo ≤ n) (h2 : n ≤ hi) : inB n lo hi = true := by simp [inB, h1, h2]
/-- Three numbers, each less than the sum of the other two. -/
def triB (a b c : Int) : Bool := decide (a < b + c) && decide (b < a + c) && decide (c < a + b)
/-- Three lengths from 1 to 60 that are sides of a triangle. -/
def sidesB (a b c : Int) : Bool := inB a 1 60 && inB b 1 60 && inB c 1 60 && triB a b c

theorem l6In_any (n lo hi : Int) (w : World) : Calls Try.prog 71 #[.int .i64 n, .int .i64 lo, .int .i64 hi] w fun e w' => e = .returned (.bool (inB n lo hi)) ∧ w = w' := by
  unfold inB
  by_cases h1 : lo ≤ n
  · go_enter Try.func71, Try.ntmps71
    go_wp2
    go_ret
    exact ⟨by simp [h1], rfl⟩
  · go_enter Try.func71, Try.ntmps71
    go_wp2
    go_ret
    exact ⟨by simp; omega, rfl⟩

theorem l6In_is {n lo hi : Int} {b : Bool} (h : inB n lo hi = b) (w : World) : Calls Try.prog 71 #[.int .i64 n, .int .i64 lo, .int .i64 hi] w fun e w' => e = .returned (.bool b) ∧ w = w' := h ▸ l6In_any n lo hi w

theorem isLength_any (n : Int) (w : World) : Calls Try.prog 60 #[.int .i64 n] w fun e w' => e = .returned (.bool (inB n 1 60)) ∧ w = w' := by
  unfold inB
  by_cases h1 : 1 ≤ n
  · go_enter Try.func60, Try.ntmps60
    go_wp2
    go_ret
    exact ⟨by simp [h1], rfl⟩
  · go_enter Try.func60, Try.ntmps60
    go_wp2
    go_ret
    exact ⟨by simp; omega, rfl⟩

theorem l1Three_any (a b c : Int) (w : World) (ha : 1 ≤ a) (ha' : a ≤ 60) (hb : 1 ≤ b) (hb' : b ≤ 60) (hc : 1 ≤ c) (hc' : c ≤ 60) :
    Calls Try.prog 73 #[.int .i64 a, .int .i64 b, .int .i64 c] w fun e w' => e = .returned (.bool (triB a b c)) ∧ w = w' := by
  unfold triB
  by_cases h1 : a < b + c
  · by_cases h2 : b < a + c
    · go_enter Try.func73, Try.ntmps73
      go_wp2
      go_ret
      exact ⟨by simp [h1, h2], rfl⟩
    · go_enter Try.func73, Try.ntmps73
      go_wp2
      go_ret
      exact ⟨by simp; omega, rfl⟩
  · go_enter Try.func73, Try.ntmps73
    go_wp2
    go_ret
    exact ⟨by simp; omega, rfl⟩

theorem closes_any (a b c : Int) (w : World) (ha : 1 ≤ a) (ha' : a ≤ 60) (hb : 1 ≤ b) (hb' : b ≤ 60) (hc : 1 ≤ c) (hc' : c ≤ 60) :
    Calls Try.prog 76 #[.agg #[.int .i64 a, .int .i64 b, .int .i64 c]] w fun e w' => e = .returned (.bool (triB a b c)) ∧ ∃ o, w' = w.alloc (.cells o 51) := by
  unfold triB
  by_cases h1 : a < b + c
  · by_cases h2 : b < a + c
    · go_enter Try.func76, Try.ntmps76
      go_wp2
      go_ret
      exact ⟨by simp [h1, h2], _, rfl⟩
    · go_enter Try.func76, Try.ntmps76
      go_wp2
      go_ret
      exact ⟨by simp; omega, _, rfl⟩
  · go_enter Try.func76, Try.ntmps76
    go_wp2
    go_ret
    exact ⟨by simp; omega, _, rfl⟩

end Go.Proofs.Ytiadnbdefcimiaa

/- Contracts of the helpers of the laws: copies, comparisons, marks. -/
namespace Go.Proofs.Ytiadnbdefcimiaa
open Go.RowKit

/-- What the copy's loop keeps: the first k numbers are there. -/
def CpRel (w : World) (n : Nat) (zs : List Int) (k : Nat) (wr : World) : Prop :=
  ∃ ys, Own wr w.heap.size (some ⟨w.heap.size, 0, none⟩) n n ys ∧ (∀ j, j < k → ys.getD j 0 = zs.getD j 0) ∧ Below w.heap.size w wr

theorem CpRel.step {w wr : World} {n k : Nat} {zs : List Int} (h : CpRel w n zs k wr) (hk : k < n) : CpRel w n zs (k + 1) (wr.setCell ⟨w.heap.size, k, none⟩ (.int .i64 (zs.getD k 0))) := by
  obtain ⟨ys, ho, hy, hb⟩ := h
  refine ⟨ys.set k (zs.getD k 0), (ho.stored k _).1, fun j hj => ?_, hb.setCell (p := ⟨w.heap.size, k, none⟩) (Nat.le_refl _) _⟩
  rw [getD_set _ _ _ _ (by rw [ho.len]; exact hk)]
  split
  · rename_i e; rw [e]
  · exact hy j (by omega)

set_option maxHeartbeats 400000 in
theorem toIntS_any (A : Option Addr) (n c : Nat) (zs : List Int) (w : World) (h : Rd w A n zs) (hn : n ≤ 1048576) :
    Calls Try.prog 42 #[.slice A n c] w fun e w' => ∃ g, e = .returned (.slice (some ⟨g, 0, none⟩) n n) ∧ Own w' w.heap.size (some ⟨g, 0, none⟩) n n zs ∧ Below w.heap.size w w' := by
  obtain ⟨i0, hi, hz0, hz1, hz2⟩ := info_parts intInfo
  go_enter Try.func42, Try.ntmps42
  go_wp2_with (first
    | (at_make; refine wpList_make_full _ rfl _ _ 23 rfl w.heap.size 3 i0 (.int .i64 0) 1 Try.underlying23 hi hz0 hz1 _ _ _ _ n rfl rfl rfl rfl (by rw [hz2]; omega) (by unfold maxLen; omega) (Nat.le_refl _) ?_; intro w1 hown hg1))
  go_loopw [4] (fun i wr => ∃ k : Nat, k ≤ n ∧ i = .int .i64 k ∧ CpRel w n zs k wr) (fun i _ => n - (intOf i).toNat)
  case atStart =>
    have e : (madeCells (Value.int .i64 0).cells (n * 1)).toList = ints (List.replicate n 0) := by
      rw [show (Value.int .i64 0).cells = #[.int .i64 0] from rfl, toList_madeCells_one]; simp
    rw [e] at hown
    exact ⟨0, Nat.zero_le _, rfl, _, hown, fun j hj => absurd hj (by omega), below_row hg1 (Nat.le_refl _) (fun k e => by cases e)⟩
  case round =>
    obtain ⟨k, hk, rfl, hrel⟩ := hrel
    by_cases hlt : k < n
    · obtain ⟨b, off, rfl, hbl, hc⟩ := h.2 (by omega)
      have hstep := Lib.hid (hrel.step hlt)
      obtain ⟨ys, ho, _, hb⟩ := hrel
      have hcx : wr.cell? ⟨b, off + k, none⟩ = some (.int .i64 (zs.getD k 0)) := (hb.cell (p := ⟨b, off + k, none⟩) hbl).trans (hc k hlt)
      have hox := ho.cell k hlt
      have hfx := ho.free k
      clear hc ho hb h
      go_wp2
      go_roundw
      case rel => exact ⟨k + 1, by omega, by go_num, by simpa using hstep.out⟩
      case measure => simp [intOf]; omega
    · go_wp2
      go_ret
      obtain ⟨ys, ho, hy, hb⟩ := hrel
      obtain rfl : k = n := by omega
      have : ys = zs := ext_getD (by rw [ho.len, h.1]) (fun j hj => hy j (by rw [← ho.len]; exact hj))
      subst this
      exact ⟨w.heap.size, rfl, ho, hb⟩


set_option maxHeartbeats 400000 in
theorem eqIntS_any (A A' : Option Addr) (n c n' c' : Nat) (xs ys : List Int) (w : World) (h : Rd w A n xs) (h' : Rd w A' n' ys) (hn : n ≤ 1048576) (hn' : n' ≤ 1048576) :
    Calls Try.prog 43 #[.slice A n c, .slice A' n' c'] w fun e w' => e = .returned (.bool (decide (xs = ys))) ∧ Below w.heap.size w w' := by
  by_cases hl : n = n'
  · subst hl
    have hm : (((n : Int)) != (n : Int)) = false := by simp
    go_enter Try.func43, Try.ntmps43
    go_wp2
    go_loopw [5] (fun i wr => ∃ k : Nat, k ≤ n ∧ i = .int .i64 k ∧ (∀ j, j < k → xs.getD j 0 = ys.getD j 0) ∧ Below w.heap.size w wr) (fun i _ => n - (intOf i).toNat)
    case atStart => exact ⟨0, Nat.zero_le _, rfl, fun j hj => absurd hj (by omega), Below.refl _ _⟩
    case round =>
      obtain ⟨k, hk, rfl, hsame, hb⟩ := hrel
      have HS := Lib.hid hsame
      clear hsame
      by_cases hlt : k < n
      · obtain ⟨b, off, rfl, hbl, hc⟩ := h.2 (by omega)
        obtain ⟨b', off', rfl, hbl', hc'⟩ := h'.2 (by omega)
        have hcx : wr.cell? ⟨b, off + k, none⟩ = some (.int .i64 (xs.getD k 0)) := (hb.cell (p := ⟨b, off + k, none⟩) hbl).trans (hc k hlt)
        have hcy : wr.cell? ⟨b', off' + k, none⟩ = some (.int .i64 (ys.getD k 0)) := (hb.cell (p := ⟨b', off' + k, none⟩) hbl').trans (hc' k hlt)
        have hx := h.1
        have hy := h'.1
        clear hc hc' h h'
        obtain ⟨x, ex⟩ : ∃ x, x = xs.getD k 0 := ⟨_, rfl⟩
        obtain ⟨y, ey⟩ : ∃ y, y = ys.getD k 0 := ⟨_, rfl⟩
        rw [← ex] at hcx
        rw [← ey] at hcy
        have EX := Lib.hid ex
        have EY := Lib.hid ey
        have HX := Lib.hid hx
        have HY := Lib.hid hy
        clear ex ey hx hy
        by_cases hxy : x = y
        · subst hxy
          go_wp2
          go_quiet (fail)
          go_wp2
          go_roundw
          case rel =>
            refine ⟨k + 1, by omega, by go_num, fun j hj => ?_, below_drewN hb _⟩
            by_cases hjk : j = k
            · subst hjk; rw [← EX.out, ← EY.out]
            · exact HS.out j (by omega)
          case measure => simp [intOf]; omega
        · have hne : (x != y) = true := by simpa using hxy
          go_wp2
          go_quiet (fail)
          go_wp2
          go_ret
          exact ⟨by
            have : xs ≠ ys := by rintro rfl; exact hxy (EX.out.trans EY.out.symm)
            simp [this], below_drewN hb _⟩
      · go_wp2
        go_ret
        obtain rfl : k = n := by omega
        have : xs = ys := ext_getD (by rw [h.1, h'.1]) (fun j hj => HS.out j (by rw [← h.1]; exact hj))
        exact ⟨by simp [this], hb⟩
  · have hm : (((n : Int)) != (n' : Int)) = true := by simp; omega
    go_enter Try.func43, Try.ntmps43
    go_wp2
    go_ret
    exact ⟨by
      have : xs ≠ ys := by rintro rfl; exact hl (h.1.symm.trans h'.1)
      simp [this], Below.refl _ _⟩

theorem eqIntS_same (A A' : Option Addr) (n c n' c' : Nat) (xs : List Int) (w : World) (h : Rd w A n xs) (h' : Rd w A' n' xs) (hn : n ≤ 1048576) (hn' : n' ≤ 1048576) :
    Calls Try.prog 43 #[.slice A n c, .slice A' n' c'] w fun e w' => e = .returned (.bool true) ∧ Below w.heap.size w w' :=
  (eqIntS_any A A' n c n' c' xs xs w h h' hn hn').mono fun e w' hh => ⟨by rw [hh.1]; simp, hh.2⟩

/-- k, k + 1, .. -/
def marks (k : Int) (n : Nat) : List Int := (List.range n).map fun (j : Nat) => k + (j : Int)
theorem marks_getD (k : Int) (n j : Nat) (h : j < n) : (marks k n).getD j 0 = k + j := by simp [marks, h]

def MarkRel (w : World) (B : Nat) (A : Option Addr) (n c : Nat) (k0 : Int) (k : Nat) (wr : World) : Prop :=
  ∃ ys, Own wr B A n c ys ∧ (∀ j, j < k → ys.getD j 0 = k0 + j) ∧ w.grownBy wr (Value.slice A n c).ownBlock
theorem grown_trans_row {a b c : World} {row : Option Nat} (h : a.grownBy b row) (k : b.grownBy c row) : a.grownBy c row :=
  ⟨k.os.trans h.os, k.tape.trans h.tape, k.output.trans h.output, Nat.le_trans h.size k.size, fun i hi hne => (k.block i (Nat.lt_of_lt_of_le hi h.size) hne).trans (h.block i hi hne)⟩
theorem MarkRel.step {w wr : World} {B n c g k : Nat} {k0 : Int} (h : MarkRel w B (some ⟨g, 0, none⟩) n c k0 k wr) (hk : k < n) : MarkRel w B (some ⟨g, 0, none⟩) n c k0 (k + 1) (wr.setCell ⟨g, k, none⟩ (.int .i64 (k0 + k))) := by
  obtain ⟨ys, ho, hy, hg⟩ := h
  refine ⟨ys.set k (k0 + k), (ho.stored k _).1, fun j hj => ?_, grown_trans_row hg (ho.stored k _).2⟩
  rw [getD_set _ _ _ _ (by rw [ho.len]; exact hk)]
  split
  · rename_i e; rw [e]
  · exact hy j (by omega)

theorem MarkRel.done {w wr : World} {B n c : Nat} {A : Option Addr} {k0 : Int} (h : MarkRel w B A n c k0 n wr) : Own wr B A n c (marks k0 n) ∧ w.grownBy wr (Value.slice A n c).ownBlock := by
  obtain ⟨ys, ho, hy, hg⟩ := h
  have : ys = marks k0 n := by
    refine ext_getD (by rw [ho.len]; simp [marks]) fun j hj => ?_
    rw [ho.len] at hj
    rw [hy j hj, marks_getD _ _ _ hj]
  subst this
  exact ⟨ho, hg⟩

set_option maxHeartbeats 400000 in
theorem markIntS_any (A : Option Addr) (n c B : Nat) (xs : List Int) (k0 : Int) (w : World) (h : Own w B A n c xs) (hn : n ≤ 1048576) (hk0 : 0 ≤ k0) (hk1 : k0 ≤ 1099511627776) :
    Calls Try.prog 44 #[.slice A n c, .int .i64 k0] w fun e w' => e = .returned (.int .i64 (k0 + n)) ∧ Own w' B A n c (marks k0 n) ∧ w.grownBy w' (Value.slice A n c).ownBlock := by
  go_enter Try.func44, Try.ntmps44
  go_wp2
  go_loopw [1, 5] (fun q i wr => ∃ k : Nat, k ≤ n ∧ i = .int .i64 k ∧ q = .int .i64 (k0 + k) ∧ MarkRel w B A n c k0 k wr) (fun _ i _ => n - (intOf i).toNat)
  case atStart => exact ⟨0, Nat.zero_le _, rfl, by simp, xs, h, fun j hj => absurd hj (by omega), World.grownBy.refl w _⟩
  case round =>
    obtain ⟨k, hk, rfl, rfl, hrel⟩ := hrel
    by_cases hlt : k < n
    · obtain ⟨g, rfl, _, _⟩ := h.form (by omega)
      have hstep := Lib.hid (hrel.step hlt)
      obtain ⟨ys, ho, _, _⟩ := hrel
      have hox := ho.cell k hlt
      have hfx := ho.free k
      clear ho h
      go_wp2
      go_roundw
      case rel => exact ⟨k + 1, by omega, by go_num, by go_num, hstep.out⟩
      case measure => simp [intOf]; omega
    · go_wp2
      go_ret
      obtain rfl : k = n := by omega
      exact ⟨rfl, hrel.done⟩

set_option maxHeartbeats 400000 in
theorem heldIntS_any (A : Option Addr) (n c : Nat) (k0 : Int) (w : World) (h : Rd w A n (marks k0 n)) (hn : n ≤ 1048576) (hk0 : 0 ≤ k0) (hk1 : k0 ≤ 1099511627776) :
    Calls Try.prog 45 #[.slice A n c, .int .i64 k0] w fun e w' => e = .returned (.int .i64 (k0 + n)) ∧ Below w.heap.size w w' := by
  go_enter Try.func45, Try.ntmps45
  go_wp2
  go_loopw [1, 5] (fun q i wr => ∃ k : Nat, k ≤ n ∧ i = .int .i64 k ∧ q = .int .i64 (k0 + k) ∧ Below w.heap.size w wr) (fun _ i _ => n - (intOf i).toNat)
  case atStart => exact ⟨0, Nat.zero_le _, rfl, by simp, Below.refl _ _⟩
  case round =>
    obtain ⟨k, hk, rfl, rfl, hb⟩ := hrel
    by_cases hlt : k < n
    · obtain ⟨b, off, rfl, hbl, hc⟩ := h.2 (by omega)
      have hcx : wr.cell? ⟨b, off + k, none⟩ = some (.int .i64 (k0 + k)) := by
        rw [← marks_getD k0 n k hlt]
        exact (hb.cell (p := ⟨b, off + k, none⟩) hbl).trans (hc k hlt)
      clear hc h
      have hne : (k0 + (k : Int) != k0 + (k : Int)) = false := by simp
      go_wp2
      go_roundw
      case rel => exact ⟨k + 1, by omega, by go_num, by go_num, hb⟩
      case measure => simp [intOf]; omega
    · go_wp2
      go_ret
      obtain rfl : k = n := by omega
      exact ⟨rfl, hb⟩
end Go.Proofs.Ytiadnbdefcimiaa

/- append of ints onto a row of the call's own, as one law: the source nil, empty or not. -/
namespace Go.Proofs.Ytiadnbdefcimiaa
open Go.RowKit

def sliceLen : Value → Nat
  | .slice _ n _ => n
  | _ => 0
theorem ints_app (xs ys : List Int) : ints xs ++ ints ys = ints (xs ++ ys) := by simp
theorem own_shape {w : World} {B n : Nat} {v : Value} {xs : List Int} (h : w.ownsRow B 3 1 v n (ints xs)) : ∃ A c, v = .slice A n c ∧ Own w B A n c xs := by
  rcases h.2 with ⟨rfl, rfl⟩ | ⟨g, cap, cur, rfl, rest⟩
  · exact ⟨none, 0, rfl, h⟩
  · exact ⟨_, cap, rfl, h⟩
theorem Rd.cells {w : World} {b off n : Nat} {xs : List Int} (hl : xs.length = n) (hc : ∀ j, j < n → w.cell? ⟨b, off + j, none⟩ = some (.int .i64 (xs.getD j 0))) : ∀ j u, (ints xs)[j]? = some u → w.cell? ((⟨b, off, none⟩ : Addr).add j) = some u := by
  intro j u hu
  have hj : j < n := by
    rcases Nat.lt_or_ge j n with h | h
    · exact h
    · rw [List.getElem?_eq_none (by simp; omega)] at hu; cases hu
  rw [ints_get xs j (by omega)] at hu
  cases hu
  have e : (⟨b, off, none⟩ : Addr).add j = ⟨b, off + j, none⟩ := by unfold Addr.add; split <;> simp_all
  rw [e]; exact hc j hj

theorem run_appT (t : TypeId) (ht : Try.prog.underlying t = some (.slice 3)) {W : World} {B n c : Nat} {A : Option Addr} {xs : List Int} (hown : Own W B A n c xs) {A2 : Option Addr} {m : Nat} (c2 : Nat) {ys : List Int} (hr : Rd W A2 m ys) (hn : n + m ≤ 16777216) (hB : B ≤ W.heap.size) (ty : TypeId) :
    ∃ A' c' W', (Builtin.append_ #[t, t] ty #[.slice A n c, .slice A2 m c2]).run Try.prog W = .ok (.slice A' (n + m) c') W' ∧ Own W' B A' (n + m) c' (xs ++ ys) ∧ W.grownBy W' (Value.slice A n c).ownBlock := by
  obtain ⟨i0, hi, hz0, hz1, hz2⟩ := info_parts intInfo
  have key : ∀ ad : Addr, (∀ j u, (ints ys)[j]? = some u → W.cell? (ad.add j) = some u) →
      ∃ A' c' W', (Builtin.append_ #[t, t] ty #[.slice A n c, .slice (some ad) m c2]).run Try.prog W = .ok (.slice A' (n + m) c') W' ∧ Own W' B A' (n + m) c' (xs ++ ys) ∧ W.grownBy W' (Value.slice A n c).ownBlock := by
    intro ad hc
    obtain ⟨v', w', hrun, h2, h3, _⟩ := run_append_own_at (P := Try.prog) W B t ty 3 i0 (.int .i64 0) 1 8 ht hi hz0 hz1 hz2 rfl (by omega) _ n (ints xs) hown ad m c2 (ints ys) (by simp [hr.1]) hc (by intro u hu; simp at hu; obtain ⟨x, _, rfl⟩ := hu; rfl) (by unfold maxLen; omega) (by omega) hB
    rw [ints_app] at h2
    obtain ⟨A', c', rfl, ho⟩ := own_shape h2
    exact ⟨A', c', w', hrun, ho, h3⟩
  rcases Nat.eq_zero_or_pos m with h0 | h0
  · subst h0
    have hy : ys = [] := List.eq_nil_of_length_eq_zero hr.1
    subst hy
    rcases A2 with _ | ad
    · refine ⟨A, c, W, ?_, by simpa using hown, World.grownBy.refl W _⟩
      rcases hown.2 with ⟨h, rfl⟩ | ⟨g, cap, cur, h, _, _, hnc, _⟩
      · simp only [Value.slice.injEq, true_and] at h
        obtain ⟨rfl, rfl⟩ := h
        simp [Builtin.append_, run_underlying ht, sizeOf, typeInfo, hi, Builtin.lenOf, Builtin.firstCells]
      · simp only [Value.slice.injEq, true_and] at h
        obtain ⟨rfl, rfl⟩ := h
        simp [Builtin.append_, run_underlying ht, sizeOf, typeInfo, hi, Builtin.lenOf, Builtin.firstCells, hnc, storeCells]
    · exact key ad (fun j u hu => by simp at hu)
  · obtain ⟨b, off, rfl, _, hc⟩ := hr.2 h0
    exact key ⟨b, off, none⟩ (Rd.cells hr.1 hc)

theorem wp_appT (t : TypeId) (ht : Try.prog.underlying t = some (.slice 3)) {o : Oper} {a : Act} {K : Act → World → Prop} {Q : Exit → Act → World → Prop} {W : World} (s x : Operand)
    (ho : o.op = .call { callee := .builtin .append, args := #[s, x], argTypes := #[t, t] })
    {B n c : Nat} {A : Option Addr} {xs : List Int} (hs : a.eval s = .slice A n c) (hown : Own W B A n c xs) {A2 : Option Addr} {m c2 : Nat} {ys : List Int} (hx : a.eval x = .slice A2 m c2) (hr : Rd W A2 m ys) (hn : n + m ≤ 16777216) (hB : B ≤ W.heap.size)
    (h : ∀ A' c' W', Own W' B A' (n + m) c' (xs ++ ys) → W.grownBy W' (Value.slice A n c).ownBlock → K (a.put o.dst (.slice A' (n + m) c')) W') : o.wp Try.prog a W K Q := by
  obtain ⟨A', c', W', hrun, h2, h3⟩ := run_appT t ht hown c2 hr hn hB o.type
  unfold Oper.wp execOp
  simp only [ho, resolve, invoke, builtin, Sem.run_bind, Sem.run_pure, Result.andThen_ok, List.map_toArray, List.map_cons, List.map_nil, hs, hx, hrun]
  exact h A' c' W' h2 h3

theorem wpList_appT (t : TypeId) (ht : Try.prog.underlying t = some (.slice 3)) {ops : Array Oper} {rest : List Oper} {o : Oper} {a : Act} {Q : Exit → Act → World → Prop} {W : World} (hgd : o.guard = none) (s x : Operand)
    (ho : o.op = .call { callee := .builtin .append, args := #[s, x], argTypes := #[t, t] })
    {B n c : Nat} {A : Option Addr} {xs : List Int} (hs : a.eval s = .slice A n c) (hown : Own W B A n c xs) {A2 : Option Addr} {m c2 : Nat} {ys : List Int} (hx : a.eval x = .slice A2 m c2) (hr : Rd W A2 m ys) (hn : n + m ≤ 16777216) (hB : B ≤ W.heap.size)
    (h : ∀ A' c' W', Own W' B A' (n + m) c' (xs ++ ys) → W.grownBy W' (Value.slice A n c).ownBlock → wpList Try.prog ops Q rest (a.put o.dst (.slice A' (n + m) c')) W') : wpList Try.prog ops Q (o :: rest) a W :=
  wpList_plain hgd fun _ hK => wp_appT t ht s x ho hs hown hx hr hn hB fun A' c' W' h2 h3 => hK _ _ (h A' c' W' h2 h3)

theorem step_appT (t : TypeId) (ht : Try.prog.underlying t = some (.slice 3)) {ops : Array Oper} {o : Oper} {a : Act} {K : Act → World → Prop} {Q : Exit → Act → World → Prop} {E : Prop} {W : World} (hgd : o.guard = none) (s x : Operand)
    (ho : o.op = .call { callee := .builtin .append, args := #[s, x], argTypes := #[t, t] })
    {B n c : Nat} {A : Option Addr} {xs : List Int} (hs : a.eval s = .slice A n c) (hown : Own W B A n c xs) {A2 : Option Addr} {m c2 : Nat} {ys : List Int} (hx : a.eval x = .slice A2 m c2) (hr : Rd W A2 m ys) (hn : n + m ≤ 16777216) (hB : B ≤ W.heap.size)
    (h : ∀ A' c' W', Own W' B A' (n + m) c' (xs ++ ys) → W.grownBy W' (Value.slice A n c).ownBlock → K (a.put o.dst (.slice A' (n + m) c')) W') :
    if Region.wanted o (yielded ops a.tmps) = true then Oper.wp Try.prog o a W K Q else E := by
  have hw : Region.wanted o (yielded ops a.tmps) = true := by simp [Region.wanted, hgd]
  rw [if_pos hw]
  exact wp_appT t ht s x ho hs hown hx hr hn hB h

theorem wpList_app {ops : Array Oper} {rest : List Oper} {o : Oper} {a : Act} {Q : Exit → Act → World → Prop} {W : World} (hgd : o.guard = none) (s x : Operand)
    (ho : o.op = .call { callee := .builtin .append, args := #[s, x], argTypes := #[23, 23] })
    {B n c : Nat} {A : Option Addr} {xs : List Int} (hs : a.eval s = .slice A n c) (hown : Own W B A n c xs) {A2 : Option Addr} {m c2 : Nat} {ys : List Int} (hx : a.eval x = .slice A2 m c2) (hr : Rd W A2 m ys) (hn : n + m ≤ 16777216) (hB : B ≤ W.heap.size)
    (h : ∀ A' c' W', Own W' B A' (n + m) c' (xs ++ ys) → W.grownBy W' (Value.slice A n c).ownBlock → wpList Try.prog ops Q rest (a.put o.dst (.slice A' (n + m) c')) W') : wpList Try.prog ops Q (o :: rest) a W :=
  wpList_appT 23 Try.underlying23 hgd s x ho hs hown hx hr hn hB h
theorem step_app {ops : Array Oper} {o : Oper} {a : Act} {K : Act → World → Prop} {Q : Exit → Act → World → Prop} {E : Prop} {W : World} (hgd : o.guard = none) (s x : Operand)
    (ho : o.op = .call { callee := .builtin .append, args := #[s, x], argTypes := #[23, 23] })
    {B n c : Nat} {A : Option Addr} {xs : List Int} (hs : a.eval s = .slice A n c) (hown : Own W B A n c xs) {A2 : Option Addr} {m c2 : Nat} {ys : List Int} (hx : a.eval x = .slice A2 m c2) (hr : Rd W A2 m ys) (hn : n + m ≤ 16777216) (hB : B ≤ W.heap.size)
    (h : ∀ A' c' W', Own W' B A' (n + m) c' (xs ++ ys) → W.grownBy W' (Value.slice A n c).ownBlock → K (a.put o.dst (.slice A' (n + m) c')) W') :
    if Region.wanted o (yielded ops a.tmps) = true then Oper.wp Try.prog o a W K Q else E :=
  step_appT 23 Try.underlying23 hgd s x ho hs hown hx hr hn hB h

/-- A literal's row. -/
theorem Own.lit (w : World) {B : Nat} (hB : B ≤ w.heap.size) (xs : List Int) (hn : xs.length ≤ 16777216) : Own (w.alloc (.cells (ints xs).toArray 3)) B (some ⟨w.heap.size, 0, none⟩) xs.length xs.length xs := by
  have := World.ownsRow_lit (e := 3) (size := 1) w (ints xs).toArray xs.length hB (by unfold maxLen; omega) (by simp)
  simpa [Own] using this
theorem Own.al {w : World} {B n c : Nat} {A : Option Addr} {xs : List Int} (h : Own w B A n c xs) (o : Obj) : Own (w.alloc o) B A n c xs := World.ownsRow.alloc h o
theorem Own.dr {w : World} {B n c : Nat} {A : Option Addr} {xs : List Int} (h : Own w B A n c xs) : Own w.drew B A n c xs := h
theorem Own.drN {w : World} {B n c : Nat} {A : Option Addr} {xs : List Int} (h : Own w B A n c xs) (k : Nat) : Own (w.drewN k) B A n c xs := h
/-- One new cell that an append reads. -/
theorem rd_one (w : World) (v : Int) : Rd (w.alloc (.cells #[.int .i64 v] 3)) (some ⟨w.heap.size, 0, none⟩) 1 [v] :=
  (Own.lit w (Nat.le_refl _) [v] (by simp)).rd
theorem rd_oneD (w : World) (v : Int) : Rd (w.alloc (.cells #[.int .i64 v] 3)).drew (some ⟨w.heap.size, 0, none⟩) 1 [v] := rd_one w v
theorem rd_oneN (w : World) (v : Int) (k : Nat) : Rd ((w.alloc (.cells #[.int .i64 v] 3)).drewN k) (some ⟨w.heap.size, 0, none⟩) 1 [v] := rd_one w v
theorem rd_oneM (w : World) (v : Int) (k : Nat) : Rd ((w.drewN k).alloc (.cells #[.int .i64 v] 3)) (some ⟨w.heap.size, 0, none⟩) 1 [v] := rd_one (w.drewN k) v
theorem size_alM (w : World) (B : Nat) (o : Obj) (k : Nat) (h : B ≤ w.heap.size) : B ≤ ((w.drewN k).alloc o).heap.size := by
  rw [World.size_alloc]; show B ≤ w.heap.size + 1; omega
theorem size_alN (w : World) (B : Nat) (o : Obj) (k : Nat) (h : B ≤ w.heap.size) : B ≤ ((w.alloc o).drewN k).heap.size := by
  show B ≤ (w.alloc o).heap.size
  rw [World.size_alloc]; omega
theorem Own.cap {w : World} {B n c : Nat} {A : Option Addr} {xs : List Int} (h : Own w B A n c xs) : n ≤ c := by
  rcases h.2 with ⟨e, h0⟩ | ⟨g, cap, cur, e, _, _, hnc, _⟩
  · omega
  · injection e with _ _ e; omega
theorem Rd.al {w : World} {A : Option Addr} {n : Nat} {xs : List Int} (h : Rd w A n xs) (o : Obj) : Rd (w.alloc o) A n xs := h.same (below_alloc (Below.refl _ _) o)
theorem Rd.dr {w : World} {A : Option Addr} {n : Nat} {xs : List Int} (h : Rd w A n xs) : Rd w.drew A n xs := h
theorem Rd.drN {w : World} {A : Option Addr} {n : Nat} {xs : List Int} (h : Rd w A n xs) (k : Nat) : Rd (w.drewN k) A n xs := h
/-- A cut's numbers. -/
theorem Rd.take {w : World} {A : Option Addr} {n k : Nat} {xs : List Int} (h : Rd w A n xs) (hk : k ≤ n) : Rd w A k (xs.take k) := by
  refine ⟨by simp [h.1]; omega, fun h0 => ?_⟩
  obtain ⟨b, off, rfl, hb, hc⟩ := h.2 (by omega)
  refine ⟨b, off, rfl, hb, fun j hj => ?_⟩
  rw [hc j (by omega)]
  simp [List.getD_eq_getElem?_getD, hj]
theorem Rd.drop {w : World} {b off n k : Nat} {xs : List Int} (h : Rd w (some ⟨b, off, none⟩) n xs) (hk : k ≤ n) : Rd w (some ⟨b, off + k, none⟩) (n - k) (xs.drop k) := by
  refine ⟨by simp [h.1], fun h0 => ?_⟩
  obtain ⟨b', off', e, hb, hc⟩ := h.2 (by omega)
  simp only [Option.some.injEq, Addr.mk.injEq, and_true] at e
  obtain ⟨rfl, rfl⟩ := e
  refine ⟨b, off + k, rfl, hb, fun j hj => ?_⟩
  rw [Nat.add_assoc, hc (k + j) (by omega)]
  simp [List.getD_eq_getElem?_getD]
theorem Rd.kept {w w' : World} {A A2 : Option Addr} {n m c : Nat} {xs : List Int} (h : Rd w A2 m xs) (hg : w.grownBy w' (Value.slice A n c).ownBlock) (hne : ∀ b off, A2 = some ⟨b, off, none⟩ → (Value.slice A n c).ownBlock ≠ some b) : Rd w' A2 m xs := by
  refine ⟨h.1, fun h0 => ?_⟩
  obtain ⟨b, off, rfl, hb, hc⟩ := h.2 h0
  exact ⟨b, off, rfl, Nat.lt_of_lt_of_le hb hg.size, fun j hj => (World.cell?_of_block (a := ⟨b, off + j, none⟩) (hg.block b hb (fun e => hne b off rfl e.symm))).trans (hc j hj)⟩
/-- append as one step of a region that draws; the base is the world in which the region began. -/
theorem step_app2 {ops : Array Oper} {o : Oper} {a : Act} {K : Act → World → Prop} {Q : Exit → Act → World → Prop} {E : Prop} {W : World} (W0 : World) (hgd : o.guard = none) (s x : Operand)
    (ho : o.op = .call { callee := .builtin .append, args := #[s, x], argTypes := #[23, 23] })
    {n c : Nat} {A : Option Addr} (xs : List Int) (hs : a.eval s = .slice A n c) (hown : Own W W0.heap.size A n c xs) {A2 : Option Addr} {m : Nat} {c2 : Nat} (ys : List Int) (hx : a.eval x = .slice A2 m c2) (hr : Rd W A2 m ys) (hb : Below W0.heap.size W0 W) (hn : n + m ≤ 16777216)
    (h : ∀ A' c' W', Own W' W0.heap.size A' (n + m) c' (xs ++ ys) → Below W0.heap.size W0 W' → W.grownBy W' (Value.slice A n c).ownBlock → K (a.put o.dst (.slice A' (n + m) c')) W') :
    if Region.wanted o (yielded ops a.tmps) = true then Oper.wp Try.prog o a W K Q else E :=
  step_app hgd s x ho hs hown hx hr hn hb.size fun A' c' W' h1 h2 => h A' c' W' h1 (app_mark hb hown (Nat.le_refl _) h2) h2
end Go.Proofs.Ytiadnbdefcimiaa
