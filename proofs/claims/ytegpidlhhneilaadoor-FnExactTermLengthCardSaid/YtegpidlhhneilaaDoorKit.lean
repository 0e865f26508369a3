/- Joined: Facts, Base, Calc1, Kit, App. -/
import Derived.Test.YtegpidlhhneilaaDoorRows
import Derived.JoinedOf
import Derived.KernelRfl
import Derived.WalkKit
import Derived.WalkSpells
import Derived.WalkLawsBesides
import Derived.ProofKit
import Derived.OpenShut
import Derived.ShutString
import Derived.ChangeOld
import Derived.Below
import Derived.IntWalk
import Derived.BigQuiet
import Derived.BigRegion
import Derived.Deep.RegionHeld3
import Derived.Deep.RegionWith
import Derived.Deep.QuietTactic
import Derived.Lib.Hide
import Derived.Laws.OwnMore
import Derived.Deep.AppendLies
import Derived.Deep.Draws
import Derived.Maps.AppendAt
import Derived.RegionTactic
import Derived.OwnWalk
import Derived.Outline
/- Closed facts on this translation that every statement of the seat asks: its head's words are read once, so that the kernel need not run over the head for each statement. -/
namespace Go.Proofs.YtegpidlhhneilaaDoor
open Go
theorem chars_of {s : String} {l : List Char} (h : s = String.ofList l) : s.toList = l := by subst h; exact String.toList_ofList
theorem strip_cut (r : List (List Char)) : stripLifts liftWords ("cut".toList :: r) = ([], "cut".toList :: r) := by
  simp [stripLifts, liftWords]
theorem mayEnter_of (P : Program) (r : List (List Char)) (h : behindMainWord (wordsSigns P.initOrder.toList) = "cut".toList :: r) (h1 : P.laysLater = false) (h2 : P.bearsReflect = false) (h3 : P.doorFits [] = true) : P.mayEnter = true := by
  unfold Program.mayEnter
  rw [h]
  simp only [strip_cut, h1, h2, h3]
  simp
theorem headLifts_of (P : Program) (r : List (List Char)) (h : behindMainWord (wordsSigns P.initOrder.toList) = "cut".toList :: r) : P.headLifts = [] := by
  unfold Program.headLifts
  rw [h]
  simp only [strip_cut]
  simp
theorem liftsFinal_of (P : Program) (r : List (List Char)) (h : behindMainWord (wordsSigns P.initOrder.toList) = "cut".toList :: r) : P.liftsFinal = false := by
  unfold Program.liftsFinal
  rw [headLifts_of P r h, h]
  simp
theorem make_of (P : Program) (r : List (List Char)) (h : behindMainWord (wordsSigns P.initOrder.toList) = "cut".toList :: r) : P.make = some .cut := by
  unfold Program.make
  rw [h]
  simp
theorem cut_of {l : List (List Char)} (h : l.head? = some "cut".toList) : ∃ r, l = "cut".toList :: r := by
  cases l with
  | nil => cases h
  | cons a r => exact ⟨r, by simp at h; rw [h]; simp⟩
set_option maxRecDepth 100000 in
theorem headIsCut : (behindMainWord (wordsSigns Tryd.prog.initOrder.toList)).head? = some "cut".toList := by
  rw [chars_of (s := Tryd.prog.initOrder) rfl]
  kernel_rfl
theorem mayF : Tryd.prog.mayEnter = true := by
  obtain ⟨r, hr⟩ := cut_of headIsCut
  exact mayEnter_of _ r hr (by kernel_rfl) (by kernel_rfl) (by kernel_rfl)
theorem liftF (c : OpenClaim) (h : c.lifted = false) : (c.lifted == Tryd.prog.liftsFinal) = true := by
  obtain ⟨r, hr⟩ := cut_of headIsCut
  rw [liftsFinal_of _ r hr, h]
  rfl
theorem makeF (c : OpenClaim) (h : c.make = .cut) : (Tryd.prog.make == some c.make) = true := by
  obtain ⟨r, hr⟩ := cut_of headIsCut
  rw [make_of _ r hr, h]
  rfl
theorem ownF : ownKnob Tryd.prog.godebug = none := by kernel_rfl
theorem laidF : laidOutB Tryd.prog = true := by kernel_rfl
theorem rowedF : mapsRowed Tryd.prog = true := by kernel_rfl
theorem heardF : Tryd.prog.stopsHeard = true := by kernel_rfl
theorem bandF {a b : Bool} (h1 : a = true) (h2 : b = true) : (a && b) = true := by rw [h1, h2]; rfl
end Go.Proofs.YtegpidlhhneilaaDoor

/- The words on memory that all texts of this seat share: a slice of ints that reads as a list; what is kept below a block. -/
namespace Go.Proofs.YtegpidlhhneilaaDoor
open Go.RowKit

theorem ret_b {a b : Bool} (h : a = b) : Ending.returned (.bool a) = .returned (.bool b) := by rw [h]
theorem ret_i {k : IntKind} {a b : Int} (h : a = b) : Ending.returned (.int k a) = .returned (.int k b) := by rw [h]
theorem ret_sl {A : Option Addr} {m n c : Nat} (h : m = n) : Ending.returned (.slice A m c) = .returned (.slice A n c) := by rw [h]
abbrev ints (xs : List Int) : List Value := xs.map (Value.int .i64)

theorem quiet_left {P : Program} {f : FuncId} {args : Array Value} {w : World} {n : Nat} {v : Value}
    (h : Calls P f args (w.drewN n) fun e w' => e = .returned v ∧ w.drewN n = w') : Calls P f args (w.drewN n) fun e w'' => e = .returned v ∧ ∃ m, w'' = w.drewN m :=
  h.mono fun _ _ ⟨he, hm⟩ => ⟨he, n, hm.symm⟩
theorem quiet_add_left {P : Program} {f : FuncId} {args : Array Value} {w : World} {a n : Nat} {v : Value}
    (h : Calls P f args (w.drewN (a + n)) fun e w' => e = .returned v ∧ w.drewN (a + n) = w') :
    Calls P f args (w.drewN (a + n)) fun e w'' => e = .returned v ∧ ∃ m, w'' = w.drewN (a + m) :=
  h.mono fun _ _ ⟨he, hm⟩ => ⟨he, n, hm.symm⟩
theorem below_drewN {B : Nat} {a w : World} (h : Below B a w) (n : Nat) : Below B a (w.drewN n) := ⟨h.os, h.tape, h.output, h.size, h.block⟩

/-- The slice value '.slice A n c' reads as the numbers xs. -/
def Rd (w : World) (A : Option Addr) (n : Nat) (xs : List Int) : Prop :=
  xs.length = n ∧ (0 < n → ∃ b off, A = some ⟨b, off, none⟩ ∧ b < w.heap.size ∧ ∀ j, j < n → w.cell? ⟨b, off + j, none⟩ = some (.int .i64 (xs.getD j 0)))

theorem Rd.nil_ (w : World) (A : Option Addr) : Rd w A 0 [] := ⟨rfl, fun h => absurd h (by omega)⟩
theorem Rd.below {w w' : World} {A : Option Addr} {n B : Nat} {xs : List Int} (h : Rd w A n xs) (hB : w.heap.size ≤ B) (hb : Below B w w') : Rd w' A n xs :=
  ⟨h.1, fun hn => by
    obtain ⟨b, off, rfl, hlt, hc⟩ := h.2 hn
    exact ⟨b, off, rfl, Nat.lt_of_lt_of_le hlt hb.size, fun j hj => (hb.cell (p := ⟨b, off + j, none⟩) (by show b < B; omega)).trans (hc j hj)⟩⟩
theorem Rd.same {w w' : World} {A : Option Addr} {n : Nat} {xs : List Int} (h : Rd w A n xs) (hb : Below w.heap.size w w') : Rd w' A n xs := h.below (Nat.le_refl _) hb
theorem Rd.at_ {w : World} {A : Option Addr} {n : Nat} {xs : List Int} (h : Rd w A n xs) (hn : 0 < n) : ∃ b off, A = some ⟨b, off, none⟩ ∧ b < w.heap.size ∧ ∀ j, j < n → w.cell? ⟨b, off + j, none⟩ = some (.int .i64 (xs.getD j 0)) := h.2 hn

/-- Each number fits its kind. -/
def WfL (k : IntKind) (xs : List Int) : Prop := ∀ x ∈ xs, (Lit.int k x).wf = true

theorem Rd.of_row {w : World} {x : Addr} {n : Nat} {zs : List Int} (hn : n ≤ zs.length) (hc : ∀ i, i < zs.length → w.cell? (x.add i) = some (.int .i64 (zs.getD i 0))) : Rd w (some x) n (zs.take n) := by
  refine ⟨by simp; omega, fun h => ?_⟩
  obtain ⟨b, off, spot⟩ := x
  have h0 := hc 0 (by omega)
  have hs : spot = none := by simpa [Addr.add] using World.cell?_spot h0
  subst hs
  refine ⟨b, off, rfl, by simpa [Addr.add] using World.block_lt_of_cell? _ _ h0, fun j hj => ?_⟩
  have hj' := hc j (by omega)
  have e : (zs.take n).getD j 0 = zs.getD j 0 := by simp [List.getD_eq_getElem?_getD, hj]
  rw [e]
  by_cases hj0 : j = 0
  · subst hj0; simpa [Addr.add] using hj'
  · simpa [Addr.add, hj0] using hj'

/-- The slice value '.slice A n c' is the call's own row (a block from B on, or nil) and holds the numbers xs. -/
def Own (w : World) (B : Nat) (A : Option Addr) (n c : Nat) (xs : List Int) : Prop := w.ownsRow B 3 1 (.slice A n c) n (ints xs)

theorem Own.len {w : World} {B n c : Nat} {A : Option Addr} {xs : List Int} (h : Own w B A n c xs) : xs.length = n := by simpa using h.1
theorem Own.form {w : World} {B n c : Nat} {A : Option Addr} {xs : List Int} (h : Own w B A n c xs) (hn : 0 < n) : ∃ g, A = some ⟨g, 0, none⟩ ∧ B ≤ g ∧ g < w.heap.size := by
  rcases h.2 with ⟨_, rfl⟩ | ⟨g, cap, cur, hv, hb, hh, _⟩
  · omega
  · have hA : A = some ⟨g, 0, none⟩ := by injection hv
    exact ⟨g, hA, hb, (Array.getElem?_eq_some_iff.1 hh).1⟩
theorem add0 (g j : Nat) : (⟨g, 0, none⟩ : Addr).add j = ⟨g, j, none⟩ := by unfold Addr.add; split <;> simp_all
theorem ints_get (xs : List Int) (j : Nat) (h : j < xs.length) : (ints xs)[j]? = some (.int .i64 (xs.getD j 0)) := by simp [h]
theorem Own.cell {w : World} {B n c g : Nat} {xs : List Int} (h : Own w B (some ⟨g, 0, none⟩) n c xs) (j : Nat) (hj : j < n) : w.cell? ⟨g, j, none⟩ = some (.int .i64 (xs.getD j 0)) := by
  have := World.ownsRow.cellAt h j (by omega)
  rw [this]; exact ints_get xs j (by rw [h.len]; exact hj)
theorem Own.rd {w : World} {B n c : Nat} {A : Option Addr} {xs : List Int} (h : Own w B A n c xs) : Rd w A n xs := by
  refine ⟨h.len, fun hn => ?_⟩
  obtain ⟨g, rfl, _, hlt⟩ := h.form hn
  exact ⟨g, 0, rfl, hlt, fun j hj => by rw [Nat.zero_add]; exact h.cell j hj⟩
theorem Own.row {w : World} {B n c : Nat} {A : Option Addr} {xs : List Int} (h : Own w B A n c xs) : ∀ k, (Value.slice A n c).ownBlock = some k → B ≤ k ∧ k < w.heap.size := World.ownsRow.lt h
theorem Own.far {w w' : World} {B n c : Nat} {A : Option Addr} {xs : List Int} {row : Option Nat} (h : Own w B A n c xs) (hg : w.grownBy w' row) (hr : ∀ k, row = some k → k < B ∨ w.heap.size ≤ k) : Own w' B A n c xs := by
  refine World.ownsRow.kept h hg ?_
  cases hb : (Value.slice A n c).ownBlock with
  | none => exact .inl rfl
  | some k =>
    refine .inr fun e => ?_
    have h1 := h.row k hb
    have h2 := hr k e.symm
    omega
theorem Own.stored {w : World} {B n c g : Nat} {xs : List Int} (h : Own w B (some ⟨g, 0, none⟩) n c xs) (j : Nat) (u : Int) :
    Own (w.setCell ⟨g, j, none⟩ (.int .i64 u)) B (some ⟨g, 0, none⟩) n c (xs.set j u) ∧ w.grownBy (w.setCell ⟨g, j, none⟩ (.int .i64 u)) (some g) := by
  have := World.ownsRow.stored h j (.int .i64 u)
  refine ⟨?_, this.2⟩
  have e : (ints xs).set j (.int .i64 u) = ints (xs.set j u) := by simp [ints, List.map_set]
  unfold Own
  rw [← e]
  exact this.1
theorem Own.free {w : World} {B n c g : Nat} {xs : List Int} (h : Own w B (some ⟨g, 0, none⟩) n c xs) (j : Nat) : w.frozen? ⟨g, j, none⟩ = false := World.ownsRow.frozenAt h j
theorem Own.blk {w : World} {B n c g : Nat} {xs : List Int} (h : Own w B (some ⟨g, 0, none⟩) n c xs) : B ≤ g ∧ g < w.heap.size := h.row g rfl
theorem getD_set (xs : List Int) (k j : Nat) (u : Int) (hk : k < xs.length) : (xs.set k u).getD j 0 = if j = k then u else xs.getD j 0 := by
  by_cases h : j = k
  · subst h; simp [hk]
  · simp [h, Ne.symm h, List.getD_eq_getElem?_getD]
theorem ext_getD {xs ys : List Int} (hl : xs.length = ys.length) (h : ∀ j, j < xs.length → xs.getD j 0 = ys.getD j 0) : xs = ys := by
  apply List.ext_getElem hl
  intro j h1 h2
  have := h j h1
  simpa [h1, h2] using this
theorem grown_of_below {w w' : World} (h : Below w.heap.size w w') : w.grownBy w' none := ⟨h.os, h.tape, h.output, h.size, fun k hk _ => h.block k hk⟩
theorem Own.same {w w' : World} {B n c : Nat} {A : Option Addr} {xs : List Int} (h : Own w B A n c xs) (hb : Below w.heap.size w w') : Own w' B A n c xs := h.far (grown_of_below hb) (fun k e => by cases e)
theorem Own.lower {w : World} {B B' n c : Nat} {A : Option Addr} {xs : List Int} (h : Own w B A n c xs) (hB : B' ≤ B) : Own w B' A n c xs := by
  refine ⟨h.1, ?_⟩
  rcases h.2 with hn | ⟨g, cap, cur, hv, hb, rest⟩
  · exact .inl hn
  · exact .inr ⟨g, cap, cur, hv, Nat.le_trans hB hb, rest⟩
theorem Rd.far {w w' : World} {A : Option Addr} {n : Nat} {xs : List Int} (h : Rd w A n xs) (hb : Below w.heap.size w w') : Rd w' A n xs := h.same hb
theorem below_row {w w' : World} {B : Nat} {row : Option Nat} (hg : w.grownBy w' row) (hB : B ≤ w.heap.size) (hr : ∀ k, row = some k → B ≤ k) : Below B w w' := (Below.refl B w).grown hg hB hr
theorem below_alloc {a w : World} (h : Below a.heap.size a w) (o : Obj) : Below a.heap.size a (w.alloc o) := h.alloc h.size o
theorem below_then {a b c : World} (h : Below a.heap.size a b) (k : Below b.heap.size b c) : Below a.heap.size a c := h.trans (k.mono h.size)
theorem wrap_is {a b : Int} (h : a = b) (h1 : -9223372036854775808 ≤ a) (h2 : a ≤ 9223372036854775807) : IntKind.i64.wrap a = b := by
  subst h; exact IntWalk.i64_in _ (by omega)
theorem app_mark {W W' : World} {A : Option Addr} {n c B : Nat} {w : World} {xs : List Int} (hb : Below w.heap.size w W) (ho : Own W B A n c xs) (hB : w.heap.size ≤ B) (hg : W.grownBy W' (Value.slice A n c).ownBlock) : Below w.heap.size w W' :=
  hb.grown hg hb.size (fun k e => by have := ho.row k e; omega)
theorem ret_lb {A : Option Addr} {n c : Nat} {a b : Bool} (h : b = a) : Ending.returned (.tuple #[.slice A n c, .bool a]) = .returned (.tuple #[.slice A n c, .bool b]) := by rw [h]
theorem intInfo : (Tryd.prog.info? 3).map (fun i => (i.zero, i.size, i.bytes)) = some (some (.int .i64 0), 1, 8) := by kernel_rfl
end Go.Proofs.YtegpidlhhneilaaDoor

/- Contracts of the functions of chapter 1 that only compute with numbers. -/
namespace Go.Proofs.YtegpidlhhneilaaDoor
open Go.RowKit

def inB (n lo hi : Int) : Bool := decide (lo ≤ n) && decide (n ≤ hi)
theorem inB_true {n lo hi : Int} (h : inB n lo hi = true) : lo ≤ n ∧ n ≤ hi := by simpa [inB] using h
theorem inB_mk {n lo hi : Int} (h1 : lo ≤ n) (h2 : n ≤ hi) : inB n lo hi = true := by simp [inB, h1, h2]
/-- Three numbers, each less than the sum of the other two. -/
def triB (a b c : Int) : Bool := decide (a < b + c) && decide (b < a + c) && decide (c < a + b)
/-- Three lengths from 1 to 60 that are sides of a triangle. -/
def sidesB (a b c : Int) : Bool := inB a 1 60 && inB b 1 60 && inB c 1 60 && triB a b c

end Go.Proofs.YtegpidlhhneilaaDoor

/- Contracts of the helpers of the laws: copies, comparisons, marks. -/
namespace Go.Proofs.YtegpidlhhneilaaDoor
open Go.RowKit

/-- What the copy's loop keeps: the first k numbers are there. -/
def CpRel (w : World) (n : Nat) (zs : List Int) (k : Nat) (wr : World) : Prop :=
  ∃ ys, Own wr w.heap.size (some ⟨w.heap.size, 0, none⟩) n n ys ∧ (∀ j, j < k → ys.getD j 0 = zs.getD j 0) ∧ Below w.heap.size w wr

theorem CpRel.step {w wr : World} {n k : Nat} {zs : List Int} (h : CpRel w n zs k wr) (hk : k < n) : CpRel w n zs (k + 1) (wr.setCell ⟨w.heap.size, k, none⟩ (.int .i64 (zs.getD k 0))) := by
  obtain ⟨ys, ho, hy, hb⟩ := h
  refine ⟨ys.set k (zs.getD k 0), (ho.stored k _).1, fun j hj => ?_, hb.setCell (p := ⟨w.heap.size, k, none⟩) (Nat.le_refl _) _⟩
  rw [getD_set _ _ _ _ (by rw [ho.len]; exact hk)]
  split
  · rename_i e; rw [e]
  · exact hy j (by omega)

/-- k, k + 1, .. -/
def marks (k : Int) (n : Nat) : List Int := (List.range n).map fun (j : Nat) => k + (j : Int)
theorem marks_getD (k : Int) (n j : Nat) (h : j < n) : (marks k n).getD j 0 = k + j := by simp [marks, h]

def MarkRel (w : World) (B : Nat) (A : Option Addr) (n c : Nat) (k0 : Int) (k : Nat) (wr : World) : Prop :=
  ∃ ys, Own wr B A n c ys ∧ (∀ j, j < k → ys.getD j 0 = k0 + j) ∧ w.grownBy wr (Value.slice A n c).ownBlock
theorem grown_trans_row {a b c : World} {row : Option Nat} (h : a.grownBy b row) (k : b.grownBy c row) : a.grownBy c row :=
  ⟨k.os.trans h.os, k.tape.trans h.tape, k.output.trans h.output, Nat.le_trans h.size k.size, fun i hi hne => (k.block i (Nat.lt_of_lt_of_le hi h.size) hne).trans (h.block i hi hne)⟩
theorem MarkRel.step {w wr : World} {B n c g k : Nat} {k0 : Int} (h : MarkRel w B (some ⟨g, 0, none⟩) n c k0 k wr) (hk : k < n) : MarkRel w B (some ⟨g, 0, none⟩) n c k0 (k + 1) (wr.setCell ⟨g, k, none⟩ (.int .i64 (k0 + k))) := by
  obtain ⟨ys, ho, hy, hg⟩ := h
  refine ⟨ys.set k (k0 + k), (ho.stored k _).1, fun j hj => ?_, grown_trans_row hg (ho.stored k _).2⟩
  rw [getD_set _ _ _ _ (by rw [ho.len]; exact hk)]
  split
  · rename_i e; rw [e]
  · exact hy j (by omega)

theorem MarkRel.done {w wr : World} {B n c : Nat} {A : Option Addr} {k0 : Int} (h : MarkRel w B A n c k0 n wr) : Own wr B A n c (marks k0 n) ∧ w.grownBy wr (Value.slice A n c).ownBlock := by
  obtain ⟨ys, ho, hy, hg⟩ := h
  have : ys = marks k0 n := by
    refine ext_getD (by rw [ho.len]; simp [marks]) fun j hj => ?_
    rw [ho.len] at hj
    rw [hy j hj, marks_getD _ _ _ hj]
  subst this
  exact ⟨ho, hg⟩

end Go.Proofs.YtegpidlhhneilaaDoor

/- append of ints onto a row of the call's own, as one law: the source nil, empty or not. -/
namespace Go.Proofs.YtegpidlhhneilaaDoor
open Go.RowKit

def sliceLen : Value → Nat
  | .slice _ n _ => n
  | _ => 0
theorem ints_app (xs ys : List Int) : ints xs ++ ints ys = ints (xs ++ ys) := by simp
theorem own_shape {w : World} {B n : Nat} {v : Value} {xs : List Int} (h : w.ownsRow B 3 1 v n (ints xs)) : ∃ A c, v = .slice A n c ∧ Own w B A n c xs := by
  rcases h.2 with ⟨rfl, rfl⟩ | ⟨g, cap, cur, rfl, rest⟩
  · exact ⟨none, 0, rfl, h⟩
  · exact ⟨_, cap, rfl, h⟩
theorem Rd.cells {w : World} {b off n : Nat} {xs : List Int} (hl : xs.length = n) (hc : ∀ j, j < n → w.cell? ⟨b, off + j, none⟩ = some (.int .i64 (xs.getD j 0))) : ∀ j u, (ints xs)[j]? = some u → w.cell? ((⟨b, off, none⟩ : Addr).add j) = some u := by
  intro j u hu
  have hj : j < n := by
    rcases Nat.lt_or_ge j n with h | h
    · exact h
    · rw [List.getElem?_eq_none (by simp; omega)] at hu; cases hu
  rw [ints_get xs j (by omega)] at hu
  cases hu
  have e : (⟨b, off, none⟩ : Addr).add j = ⟨b, off + j, none⟩ := by unfold Addr.add; split <;> simp_all
  rw [e]; exact hc j hj

theorem run_appT (t : TypeId) (ht : Tryd.prog.underlying t = some (.slice 3)) {W : World} {B n c : Nat} {A : Option Addr} {xs : List Int} (hown : Own W B A n c xs) {A2 : Option Addr} {m : Nat} (c2 : Nat) {ys : List Int} (hr : Rd W A2 m ys) (hn : n + m ≤ 16777216) (hB : B ≤ W.heap.size) (ty : TypeId) :
    ∃ A' c' W', (Builtin.append_ #[t, t] ty #[.slice A n c, .slice A2 m c2]).run Tryd.prog W = .ok (.slice A' (n + m) c') W' ∧ Own W' B A' (n + m) c' (xs ++ ys) ∧ W.grownBy W' (Value.slice A n c).ownBlock := by
  obtain ⟨i0, hi, hz0, hz1, hz2⟩ := info_parts intInfo
  have key : ∀ ad : Addr, (∀ j u, (ints ys)[j]? = some u → W.cell? (ad.add j) = some u) →
      ∃ A' c' W', (Builtin.append_ #[t, t] ty #[.slice A n c, .slice (some ad) m c2]).run Tryd.prog W = .ok (.slice A' (n + m) c') W' ∧ Own W' B A' (n + m) c' (xs ++ ys) ∧ W.grownBy W' (Value.slice A n c).ownBlock := by
    intro ad hc
    obtain ⟨v', w', hrun, h2, h3, _⟩ := run_append_own_at (P := Tryd.prog) W B t ty 3 i0 (.int .i64 0) 1 8 ht hi hz0 hz1 hz2 rfl (by omega) _ n (ints xs) hown ad m c2 (ints ys) (by simp [hr.1]) hc (by intro u hu; simp at hu; obtain ⟨x, _, rfl⟩ := hu; rfl) (by unfold maxLen; omega) (by omega) hB
    rw [ints_app] at h2
    obtain ⟨A', c', rfl, ho⟩ := own_shape h2
    exact ⟨A', c', w', hrun, ho, h3⟩
  rcases Nat.eq_zero_or_pos m with h0 | h0
  · subst h0
    have hy : ys = [] := List.eq_nil_of_length_eq_zero hr.1
    subst hy
    rcases A2 with _ | ad
    · refine ⟨A, c, W, ?_, by simpa using hown, World.grownBy.refl W _⟩
      rcases hown.2 with ⟨h, rfl⟩ | ⟨g, cap, cur, h, _, _, hnc, _⟩
      · simp only [Value.slice.injEq, true_and] at h
        obtain ⟨rfl, rfl⟩ := h
        simp [Builtin.append_, run_underlying ht, sizeOf, typeInfo, hi, Builtin.lenOf, Builtin.firstCells]
      · simp only [Value.slice.injEq, true_and] at h
        obtain ⟨rfl, rfl⟩ := h
        simp [Builtin.append_, run_underlying ht, sizeOf, typeInfo, hi, Builtin.lenOf, Builtin.firstCells, hnc, storeCells]
    · exact key ad (fun j u hu => by simp at hu)
  · obtain ⟨b, off, rfl, _, hc⟩ := hr.2 h0
    exact key ⟨b, off, none⟩ (Rd.cells hr.1 hc)

theorem wp_appT (t : TypeId) (ht : Tryd.prog.underlying t = some (.slice 3)) {o : Oper} {a : Act} {K : Act → World → Prop} {Q : Exit → Act → World → Prop} {W : World} (s x : Operand)
    (ho : o.op = .call { callee := .builtin .append, args := #[s, x], argTypes := #[t, t] })
    {B n c : Nat} {A : Option Addr} {xs : List Int} (hs : a.eval s = .slice A n c) (hown : Own W B A n c xs) {A2 : Option Addr} {m c2 : Nat} {ys : List Int} (hx : a.eval x = .slice A2 m c2) (hr : Rd W A2 m ys) (hn : n + m ≤ 16777216) (hB : B ≤ W.heap.size)
    (h : ∀ A' c' W', Own W' B A' (n + m) c' (xs ++ ys) → W.grownBy W' (Value.slice A n c).ownBlock → K (a.put o.dst (.slice A' (n + m) c')) W') : o.wp Tryd.prog a W K Q := by
  obtain ⟨A', c', W', hrun, h2, h3⟩ := run_appT t ht hown c2 hr hn hB o.type
  unfold Oper.wp execOp
  simp only [ho, resolve, invoke, builtin, Sem.run_bind, Sem.run_pure, Result.andThen_ok, List.map_toArray, List.map_cons, List.map_nil, hs, hx, hrun]
  exact h A' c' W' h2 h3

theorem wpList_appT (t : TypeId) (ht : Tryd.prog.underlying t = some (.slice 3)) {ops : Array Oper} {rest : List Oper} {o : Oper} {a : Act} {Q : Exit → Act → World → Prop} {W : World} (hgd : o.guard = none) (s x : Operand)
    (ho : o.op = .call { callee := .builtin .append, args := #[s, x], argTypes := #[t, t] })
    {B n c : Nat} {A : Option Addr} {xs : List Int} (hs : a.eval s = .slice A n c) (hown : Own W B A n c xs) {A2 : Option Addr} {m c2 : Nat} {ys : List Int} (hx : a.eval x = .slice A2 m c2) (hr : Rd W A2 m ys) (hn : n + m ≤ 16777216) (hB : B ≤ W.heap.size)
    (h : ∀ A' c' W', Own W' B A' (n + m) c' (xs ++ ys) → W.grownBy W' (Value.slice A n c).ownBlock → wpList Tryd.prog ops Q rest (a.put o.dst (.slice A' (n + m) c')) W') : wpList Tryd.prog ops Q (o :: rest) a W :=
  wpList_plain hgd fun _ hK => wp_appT t ht s x ho hs hown hx hr hn hB fun A' c' W' h2 h3 => hK _ _ (h A' c' W' h2 h3)

theorem step_appT (t : TypeId) (ht : Tryd.prog.underlying t = some (.slice 3)) {ops : Array Oper} {o : Oper} {a : Act} {K : Act → World → Prop} {Q : Exit → Act → World → Prop} {E : Prop} {W : World} (hgd : o.guard = none) (s x : Operand)
    (ho : o.op = .call { callee := .builtin .append, args := #[s, x], argTypes := #[t, t] })
    {B n c : Nat} {A : Option Addr} {xs : List Int} (hs : a.eval s = .slice A n c) (hown : Own W B A n c xs) {A2 : Option Addr} {m c2 : Nat} {ys : List Int} (hx : a.eval x = .slice A2 m c2) (hr : Rd W A2 m ys) (hn : n + m ≤ 16777216) (hB : B ≤ W.heap.size)
    (h : ∀ A' c' W', Own W' B A' (n + m) c' (xs ++ ys) → W.grownBy W' (Value.slice A n c).ownBlock → K (a.put o.dst (.slice A' (n + m) c')) W') :
    if Region.wanted o (yielded ops a.tmps) = true then Oper.wp Tryd.prog o a W K Q else E := by
  have hw : Region.wanted o (yielded ops a.tmps) = true := by simp [Region.wanted, hgd]
  rw [if_pos hw]
  exact wp_appT t ht s x ho hs hown hx hr hn hB h

/-- A literal's row. -/
theorem Own.lit (w : World) {B : Nat} (hB : B ≤ w.heap.size) (xs : List Int) (hn : xs.length ≤ 16777216) : Own (w.alloc (.cells (ints xs).toArray 3)) B (some ⟨w.heap.size, 0, none⟩) xs.length xs.length xs := by
  have := World.ownsRow_lit (e := 3) (size := 1) w (ints xs).toArray xs.length hB (by unfold maxLen; omega) (by simp)
  simpa [Own] using this
theorem Own.al {w : World} {B n c : Nat} {A : Option Addr} {xs : List Int} (h : Own w B A n c xs) (o : Obj) : Own (w.alloc o) B A n c xs := World.ownsRow.alloc h o
theorem Own.dr {w : World} {B n c : Nat} {A : Option Addr} {xs : List Int} (h : Own w B A n c xs) : Own w.drew B A n c xs := h
theorem Own.drN {w : World} {B n c : Nat} {A : Option Addr} {xs : List Int} (h : Own w B A n c xs) (k : Nat) : Own (w.drewN k) B A n c xs := h
/-- One new cell that an append reads. -/
theorem rd_one (w : World) (v : Int) : Rd (w.alloc (.cells #[.int .i64 v] 3)) (some ⟨w.heap.size, 0, none⟩) 1 [v] :=
  (Own.lit w (Nat.le_refl _) [v] (by simp)).rd
theorem rd_oneD (w : World) (v : Int) : Rd (w.alloc (.cells #[.int .i64 v] 3)).drew (some ⟨w.heap.size, 0, none⟩) 1 [v] := rd_one w v
theorem rd_oneN (w : World) (v : Int) (k : Nat) : Rd ((w.alloc (.cells #[.int .i64 v] 3)).drewN k) (some ⟨w.heap.size, 0, none⟩) 1 [v] := rd_one w v
theorem rd_oneM (w : World) (v : Int) (k : Nat) : Rd ((w.drewN k).alloc (.cells #[.int .i64 v] 3)) (some ⟨w.heap.size, 0, none⟩) 1 [v] := rd_one (w.drewN k) v
theorem size_alM (w : World) (B : Nat) (o : Obj) (k : Nat) (h : B ≤ w.heap.size) : B ≤ ((w.drewN k).alloc o).heap.size := by
  rw [World.size_alloc]; show B ≤ w.heap.size + 1; omega
theorem size_alN (w : World) (B : Nat) (o : Obj) (k : Nat) (h : B ≤ w.heap.size) : B ≤ ((w.alloc o).drewN k).heap.size := by
  show B ≤ (w.alloc o).heap.size
  rw [World.size_alloc]; omega
theorem Own.cap {w : World} {B n c : Nat} {A : Option Addr} {xs : List Int} (h : Own w B A n c xs) : n ≤ c := by
  rcases h.2 with ⟨e, h0⟩ | ⟨g, cap, cur, e, _, _, hnc, _⟩
  · omega
  · injection e with _ _ e; omega
theorem Rd.al {w : World} {A : Option Addr} {n : Nat} {xs : List Int} (h : Rd w A n xs) (o : Obj) : Rd (w.alloc o) A n xs := h.same (below_alloc (Below.refl _ _) o)
theorem Rd.dr {w : World} {A : Option Addr} {n : Nat} {xs : List Int} (h : Rd w A n xs) : Rd w.drew A n xs := h
theorem Rd.drN {w : World} {A : Option Addr} {n : Nat} {xs : List Int} (h : Rd w A n xs) (k : Nat) : Rd (w.drewN k) A n xs := h
/-- A cut's numbers. -/
theorem Rd.take {w : World} {A : Option Addr} {n k : Nat} {xs : List Int} (h : Rd w A n xs) (hk : k ≤ n) : Rd w A k (xs.take k) := by
  refine ⟨by simp [h.1]; omega, fun h0 => ?_⟩
  obtain ⟨b, off, rfl, hb, hc⟩ := h.2 (by omega)
  refine ⟨b, off, rfl, hb, fun j hj => ?_⟩
  rw [hc j (by omega)]
  simp [List.getD_eq_getElem?_getD, hj]
theorem Rd.drop {w : World} {b off n k : Nat} {xs : List Int} (h : Rd w (some ⟨b, off, none⟩) n xs) (hk : k ≤ n) : Rd w (some ⟨b, off + k, none⟩) (n - k) (xs.drop k) := by
  refine ⟨by simp [h.1], fun h0 => ?_⟩
  obtain ⟨b', off', e, hb, hc⟩ := h.2 (by omega)
  simp only [Option.some.injEq, Addr.mk.injEq, and_true] at e
  obtain ⟨rfl, rfl⟩ := e
  refine ⟨b, off + k, rfl, hb, fun j hj => ?_⟩
  rw [Nat.add_assoc, hc (k + j) (by omega)]
  simp [List.getD_eq_getElem?_getD]
theorem Rd.kept {w w' : World} {A A2 : Option Addr} {n m c : Nat} {xs : List Int} (h : Rd w A2 m xs) (hg : w.grownBy w' (Value.slice A n c).ownBlock) (hne : ∀ b off, A2 = some ⟨b, off, none⟩ → (Value.slice A n c).ownBlock ≠ some b) : Rd w' A2 m xs := by
  refine ⟨h.1, fun h0 => ?_⟩
  obtain ⟨b, off, rfl, hb, hc⟩ := h.2 h0
  exact ⟨b, off, rfl, Nat.lt_of_lt_of_le hb hg.size, fun j hj => (World.cell?_of_block (a := ⟨b, off + j, none⟩) (hg.block b hb (fun e => hne b off rfl e.symm))).trans (hc j hj)⟩
end Go.Proofs.YtegpidlhhneilaaDoor
