/- Joined: Read, ReadB. -/
import Derived.Test.YtiadnbdefcimiaaKit
import Derived.Laws.BitsAllLaws
/- The model's reader of a code: what it picks is some number in its range; it turns its own block alone. -/
namespace Go.Proofs.Ytiadnbdefcimiaa
open Go.RowKit

/-- The slice value '.slice A n c' reads as bytes. -/
def RdB (w : World) (A : Option Addr) (n : Nat) (xs : List Int) : Prop :=
  xs.length = n ∧ (0 < n → ∃ b off, A = some ⟨b, off, none⟩ ∧ b < w.heap.size ∧ ∀ j, j < n → w.cell? ⟨b, off + j, none⟩ = some (.int .u8 (xs.getD j 0)))
theorem RdB.nil_ (w : World) (A : Option Addr) : RdB w A 0 [] := ⟨rfl, fun h => absurd h (by omega)⟩
theorem RdB.same {w w' : World} {A : Option Addr} {n : Nat} {xs : List Int} (h : RdB w A n xs) (hb : Below w.heap.size w w') : RdB w' A n xs :=
  ⟨h.1, fun hn => by
    obtain ⟨b, off, rfl, hlt, hc⟩ := h.2 hn
    exact ⟨b, off, rfl, Nat.lt_of_lt_of_le hlt hb.size, fun j hj => (hb.cell (p := ⟨b, off + j, none⟩) hlt).trans (hc j hj)⟩⟩
theorem RdB.of_row {w : World} {x : Addr} {n : Nat} {zs : List Int} (hn : n ≤ zs.length) (hc : ∀ i, i < zs.length → w.cell? (x.add i) = some (.int .u8 (zs.getD i 0))) : RdB w (some x) n (zs.take n) := by
  refine ⟨by simp; omega, fun h => ?_⟩
  obtain ⟨b, off, spot⟩ := x
  have h0 := hc 0 (by omega)
  have hs : spot = none := by simpa [Addr.add] using World.cell?_spot h0
  subst hs
  refine ⟨b, off, rfl, by simpa [Addr.add] using World.block_lt_of_cell? _ _ h0, fun j hj => ?_⟩
  have hj' := hc j (by omega)
  have e : (zs.take n).getD j 0 = zs.getD j 0 := by simp [List.getD_eq_getElem?_getD, hj]
  rw [e]
  by_cases hj0 : j = 0
  · subst hj0; simpa [Addr.add] using hj'
  · simpa [Addr.add, hj0] using hj'
/-- Each is a byte. -/
def Bytes (xs : List Int) : Prop := ∀ j, 0 ≤ xs.getD j 0 ∧ xs.getD j 0 ≤ 255
theorem bytes_of {xs : List Int} (h : WfL .u8 xs) : Bytes xs := by
  intro j
  by_cases hj : j < xs.length
  · have := h (xs.getD j 0) (by rw [List.getD_eq_getElem?_getD, List.getElem?_eq_getElem hj]; exact List.getElem_mem hj)
    generalize xs.getD j 0 = v at this ⊢
    simp [Lit.wf, IntKind.min, IntKind.max, IntKind.signed, IntKind.bits] at this
    exact ⟨by omega, by omega⟩
  · rw [List.getD_eq_getElem?_getD, List.getElem?_eq_none (by omega)]; simp

/-- The reader in block g has picked p times; its bytes lie where they lay. -/
def Rdr (w0 w : World) (g p : Nat) : Prop :=
  ∃ (A : Option Addr) (n c : Nat) (bs : List Int), w.heap[g]? = some (.cells #[.slice A n c, .int .i64 p] 78 (0, 0)) ∧ RdB w0 A n bs ∧ Bytes bs ∧ n ≤ 2000 ∧ w0.heap.size ≤ g ∧ Below w0.heap.size w0 w

theorem i64_xor_lt (a b : Nat) (ha : a < 1099511627776) (hb : b < 1099511627776) : 0 ≤ bits .xor .i64 (a : Int) (b : Int) ∧ bits .xor .i64 (a : Int) (b : Int) < 1099511627776 := by
  have hx : a ^^^ b < 2 ^ 40 := Nat.xor_lt_two_pow (by omega) (by omega)
  have e1 : (BitVec.ofInt 64 (a : Int)).toNat = a := by rw [BitVec.ofInt_natCast, BitVec.toNat_ofNat]; exact Nat.mod_eq_of_lt (by omega)
  have e2 : (BitVec.ofInt 64 (b : Int)).toNat = b := by rw [BitVec.ofInt_natCast, BitVec.toNat_ofNat]; exact Nat.mod_eq_of_lt (by omega)
  have e : bits .xor .i64 (a : Int) (b : Int) = ((a ^^^ b : Nat) : Int) := by
    show IntKind.i64.wrap ((BitVec.ofInt 64 (a : Int) ^^^ BitVec.ofInt 64 (b : Int)).toNat : Int) = _
    rw [BitVec.toNat_xor, e1, e2, IntKind.wrap_i64]
    omega
  rw [e]; omega

theorem pick_val (s m : Int) (h1 : 0 ≤ s) (h2 : s ≤ 200000000) (hm : 1 ≤ m) : 0 ≤ (bits .xor .i64 s (s / 64)).tmod m ∧ (bits .xor .i64 s (s / 64)).tmod m < m := by
  obtain ⟨S, rfl⟩ := Int.eq_ofNat_of_zero_le h1
  have e : ((S : Int) / 64) = ((S / 64 : Nat) : Int) := by simp
  rw [e]
  have h := i64_xor_lt S (S / 64) (by omega) (by omega)
  rw [Int.tmod_eq_emod_of_nonneg h.1]
  exact ⟨Int.emod_nonneg _ (by omega), Int.emod_lt_of_pos _ (by omega)⟩
theorem wrapN (z : Nat) (h : z ≤ 100000000) : IntKind.i64.wrap (z : Int) = (z : Int) := wrap_is rfl (by omega) (by omega)
/-- What a pick leaves. -/
def Picked (w0 w : World) (g p : Nat) (m : Int) (e : Ending) (w' : World) : Prop :=
  ∃ v : Int, e = .returned (.int .i64 v) ∧ (m < 1 → v = 0) ∧ (1 ≤ m → 0 ≤ v ∧ v < m) ∧ Rdr w0 w' g (p + 1) ∧ w.grownBy w' (some g)

theorem Rdr.step {w0 w : World} {g p : Nat} {A : Option Addr} {n c : Nat} {bs : List Int} (hh : w.heap[g]? = some (.cells #[.slice A n c, .int .i64 p] 78 (0, 0))) (h1 : RdB w0 A n bs) (h2 : Bytes bs) (h3 : n ≤ 2000) (h4 : w0.heap.size ≤ g) (h5 : Below w0.heap.size w0 w) :
    Rdr w0 (w.setCell ⟨g, 1, none⟩ (.int .i64 ((p : Int) + 1))) g (p + 1) ∧ w.grownBy (w.setCell ⟨g, 1, none⟩ (.int .i64 ((p : Int) + 1))) (some g) := by
  refine ⟨⟨A, n, c, bs, ?_, h1, h2, h3, h4, h5.setCell (p := ⟨g, 1, none⟩) h4 _⟩, ⟨rfl, rfl, rfl, by simp, fun k _ hk => heap_setCell_other w ⟨g, 1, none⟩ k _ (fun e => hk (by simp [e]))⟩⟩
  have := heap_setCell_same w g 1 _ _ (.int .i64 ((p : Int) + 1)) hh
  simpa using this
theorem grown_drewN_ {w wr : World} {row : Option Nat} (h : w.grownBy wr row) (k : Nat) : w.grownBy (wr.drewN k) row := ⟨h.os, h.tape, h.output, h.size, h.block⟩
theorem Rdr.drN {w0 w : World} {g p : Nat} (h : Rdr w0 w g p) (k : Nat) : Rdr w0 (w.drewN k) g p := by
  obtain ⟨A, n, c, bs, h1, h2, h3, h4, h5, h6⟩ := h
  exact ⟨A, n, c, bs, h1, h2, h3, h4, h5, below_drewN h6 k⟩

set_option maxRecDepth 100000 in
set_option maxHeartbeats 2000000 in
theorem pick_any (w0 : World) (g p : Nat) (m : Int) (w : World) (h : Rdr w0 w g p) (hp : p ≤ 1000000) (hm1 : -1000000 ≤ m) (hm2 : m ≤ 1000000) :
    Calls Try.prog 70 #[.pointer (some ⟨g, 0, none⟩), .int .i64 m] w (Picked w0 w g p m) := by
  obtain ⟨A, n, c, bs, hh, hr, hby, hn, hg, hb⟩ := h
  have hst := Rdr.step hh hr hby hn hg hb
  have HST := Lib.hid hst
  have c0 : w.cell? ⟨g, 0, none⟩ = some (.slice A n c) := by rw [cell_of_row w g 0 _ _ _ hh]; rfl
  have c1 : w.cell? ⟨g, 1, none⟩ = some (.int .i64 p) := by rw [cell_of_row w g 1 _ _ _ hh]; rfl
  have f1 : w.frozen? ⟨g, 1, none⟩ = false := frozen_of_row w g 1 _ _ hh
  clear hst hh
  by_cases hm : m < 1
  · go_enter Try.func70, Try.ntmps70
    go_wp2
    go_ret
    exact ⟨0, rfl, fun _ => rfl, fun h => absurd h (by omega), HST.out.1, HST.out.2⟩
  · by_cases hn0 : n = 0
    · have hd : ((n : Int) == 0) = true := by simp; omega
      go_enter Try.func70, Try.ntmps70
      go_wp2
      go_ret
      exact ⟨0, rfl, fun _ => rfl, fun h => ⟨by omega, by omega⟩, HST.out.1, HST.out.2⟩
    · have hd : ((n : Int) == 0) = false := by simp; omega
      obtain ⟨b, off, rfl, hbl, hc⟩ := hr.2 (by omega)
      have hcw : ∀ j, j < n → w.cell? ⟨b, off + j, none⟩ = some (.int .u8 (bs.getD j 0)) := fun j hj => (hb.cell (p := ⟨b, off + j, none⟩) hbl).trans (hc j hj)
      have hbg : b ≠ g := by omega
      by_cases hpn : p < n
      · have hx := hcw p hpn
        have hbd := hby p
        obtain ⟨x, ex⟩ : ∃ x, x = bs.getD p 0 := ⟨_, rfl⟩
        rw [← ex] at hx hbd
        have hx' := (World.cell?_setCell_other w ⟨g, 1, none⟩ ⟨b, off + p, none⟩ (.int .i64 ((p : Int) + 1)) (by intro e; injection e; omega)).trans hx
        clear ex hc hcw hby hr hb hx
        go_enter Try.func70, Try.ntmps70
        go_wp2
        go_ret
        exact ⟨x % m, rfl, fun h => absurd h (by omega), fun h => ⟨Int.emod_nonneg _ (by omega), Int.emod_lt_of_pos _ (by omega)⟩, HST.out.1, HST.out.2⟩
      · obtain ⟨q, hq, hq1, hq2, hq3⟩ : ∃ q : Nat, q < n ∧ (p : Int).tmod (n : Int) = (q : Int) ∧ (p : Int) % (n : Int) = (q : Int) ∧ IntKind.i64.wrap (q : Int) = (q : Int) :=
          ⟨p % n, Nat.mod_lt _ (by omega), by rw [Int.tmod_eq_emod_of_nonneg (by omega)]; simp, by simp, wrapN _ (Nat.le_trans (Nat.le_of_lt (Nat.mod_lt p (show n > 0 by omega))) (by omega))⟩
        obtain ⟨r, hr0, hr1, hr2, hr3⟩ : ∃ r : Nat, r < n ∧ ((p : Int) * 7 + 3).tmod (n : Int) = (r : Int) ∧ ((p : Int) * 7 + 3) % (n : Int) = (r : Int) ∧ IntKind.i64.wrap (r : Int) = (r : Int) :=
          ⟨(p * 7 + 3) % n, Nat.mod_lt _ (by omega), by rw [Int.tmod_eq_emod_of_nonneg (by omega)]; simp, by simp, wrapN _ (Nat.le_trans (Nat.le_of_lt (Nat.mod_lt (p * 7 + 3) (show n > 0 by omega))) (by omega))⟩
        obtain ⟨d, hd1, hd2, hd3, hd4⟩ : ∃ d : Nat, d ≤ p ∧ (p : Int).tdiv (n : Int) = (d : Int) ∧ (p : Int) / (n : Int) = (d : Int) ∧ IntKind.i64.wrap (d : Int) = (d : Int) :=
          ⟨p / n, Nat.div_le_self _ _, by rw [Int.tdiv_eq_ediv_of_nonneg (by omega)]; simp, by simp, wrapN _ (Nat.le_trans (Nat.div_le_self p n) (by omega))⟩
        have hx := hcw q hq
        have hy := hcw r hr0
        have hbx := hby q
        have hbyy := hby r
        obtain ⟨x, ex⟩ : ∃ x, x = bs.getD q 0 := ⟨_, rfl⟩
        obtain ⟨y, ey⟩ : ∃ y, y = bs.getD r 0 := ⟨_, rfl⟩
        rw [← ex] at hx hbx
        rw [← ey] at hy hbyy
        have hx' := (World.cell?_setCell_other w ⟨g, 1, none⟩ ⟨b, off + q, none⟩ (.int .i64 ((p : Int) + 1)) (by intro e; injection e; omega)).trans hx
        have hy' := (World.cell?_setCell_other w ⟨g, 1, none⟩ ⟨b, off + r, none⟩ (.int .i64 ((p : Int) + 1)) (by intro e; injection e; omega)).trans hy
        have w1 : IntKind.i64.wrap ((p : Int) * 7) = (p : Int) * 7 := wrap_is rfl (by omega) (by omega)
        have w2 : IntKind.i64.wrap ((p : Int) * 7 + 3) = (p : Int) * 7 + 3 := wrap_is rfl (by omega) (by omega)
        have w3 : IntKind.i64.wrap (x * 131) = x * 131 := wrap_is rfl (by omega) (by omega)
        have w4 : IntKind.i64.wrap (y * 1117) = y * 1117 := wrap_is rfl (by omega) (by omega)
        have w5 : IntKind.i64.wrap (x * 131 + y * 1117) = x * 131 + y * 1117 := wrap_is rfl (by omega) (by omega)
        have w6 : IntKind.i64.wrap ((p : Int) * 29) = (p : Int) * 29 := wrap_is rfl (by omega) (by omega)
        have w7 : IntKind.i64.wrap (x * 131 + y * 1117 + (p : Int) * 29) = x * 131 + y * 1117 + (p : Int) * 29 := wrap_is rfl (by omega) (by omega)
        have w8 : IntKind.i64.wrap ((d : Int) * 53) = (d : Int) * 53 := wrap_is rfl (by omega) (by omega)
        have w9 : IntKind.i64.wrap (x * 131 + y * 1117 + (p : Int) * 29 + (d : Int) * 53) = x * 131 + y * 1117 + (p : Int) * 29 + (d : Int) * 53 := wrap_is rfl (by omega) (by omega)
        have wx : IntKind.i64.wrap x = x := wrap_is rfl (by omega) (by omega)
        have wy : IntKind.i64.wrap y = y := wrap_is rfl (by omega) (by omega)
        have v1 : (q : Int) < (n : Int) := by omega
        have v2 : (r : Int) < (n : Int) := by omega
        have v3 : ((n : Int) == 0) = false := by simp; omega
        have v4 : ¬ ((n : Int) = 0) := by omega
        obtain ⟨s, hs⟩ : ∃ s : Int, s = x * 131 + y * 1117 + (p : Int) * 29 + (d : Int) * 53 := ⟨_, rfl⟩
        have hs1 : 0 ≤ s := by omega
        have hs2 : s ≤ 200000000 := by omega
        have SS := Lib.hid hs
        clear hs ex ey hc hcw hby hr hb hx hy
        go_enter Try.func70, Try.ntmps70
        go_wp2
        go_quiet (fail)
        go_wp2
        go_ret
        rw [SS.out] at hs1 hs2
        exact ⟨_, rfl, fun h => absurd h (by omega), fun h => pick_val _ m hs1 hs2 h, HST.out.1.drN _, grown_drewN_ HST.out.2 _⟩

/-- What a reader's function leaves: a number of a range. -/
def Drew (w0 w : World) (g p k : Nat) (lo hi : Int) (e : Ending) (w' : World) : Prop :=
  ∃ v : Int, e = .returned (.int .i64 v) ∧ lo ≤ v ∧ v ≤ hi ∧ Rdr w0 w' g (p + k) ∧ w.grownBy w' (some g)

set_option maxHeartbeats 1000000 in
theorem l91Length_any (w0 : World) (g p : Nat) (w : World) (h : Rdr w0 w g p) (hp : p ≤ 900000) : Calls Try.prog 114 #[.pointer (some ⟨g, 0, none⟩)] w (Drew w0 w g p 3 1 60) := by
  go_enter Try.func114, Try.ntmps114
  go_wp2_with fail
  refine (pick_any w0 g p 12 _ h (by omega) (by omega) (by omega)).mono ?_
  rintro e w1 ⟨v1, rfl, _, hv1, h1, g1⟩
  have hv1 := hv1 (by omega)
  go_wp2_with fail
  refine (pick_any w0 g (p + 1) 6 _ h1 (by omega) (by omega) (by omega)).mono ?_
  rintro e w2 ⟨v2, rfl, _, hv2, h2, g2⟩
  have hv2 := hv2 (by omega)
  go_wp2_with fail
  refine (pick_any w0 g (p + 1 + 1) 48 _ h2 (by omega) (by omega) (by omega)).mono ?_
  rintro e w3 ⟨v3, rfl, _, hv3, h3, g3⟩
  have hv3 := hv3 (by omega)
  have hq : v2 / 5 = 0 ∨ v2 / 5 = 1 := by omega
  obtain ⟨q, eq⟩ : ∃ q, q = v2 / 5 := ⟨_, rfl⟩
  have hz : 0 ≤ v2 / 5 * v3 ∧ v2 / 5 * v3 ≤ 47 := by rcases hq with h | h <;> rw [h] <;> omega
  clear eq
  go_wp2_with fail
  go_ret
  exact ⟨_, rfl, by omega, by omega, h3, grown_trans_row (grown_trans_row g1 g2) g3⟩

theorem l6Open_any (A : Option Addr) (n c : Nat) (bs : List Int) (w : World) (h : RdB w A n bs) (hb : Bytes bs) (hn : n ≤ 1048576) (hc : n ≤ c) :
    Calls Try.prog 68 #[.slice A n c] w fun e w' => ∃ g, e = .returned (.pointer (some ⟨g, 0, none⟩)) ∧ w.heap.size ≤ g ∧ g < w'.heap.size ∧ Rdr w w' g 0 ∧ Below w.heap.size w w' := by
  by_cases h2 : n ≤ 2000
  · go_enter Try.func68, Try.ntmps68
    go_wp2
    go_ret
    refine ⟨w.heap.size, rfl, Nat.le_refl _, by simp, ⟨A, n, c, bs, heap_alloc_new w _, h, hb, h2, Nat.le_refl _, below_alloc (Below.refl _ _) _⟩, below_alloc (Below.refl _ _) _⟩
  · have e1 : (2000 : Int) ≤ (c : Int) := by omega
    go_enter Try.func68, Try.ntmps68
    go_wp2
    go_ret
    refine ⟨w.heap.size, rfl, Nat.le_refl _, by simp, ⟨A, 2000, c, bs.take 2000, heap_alloc_new w _, ?_, ?_, by omega, Nat.le_refl _, below_alloc (Below.refl _ _) _⟩, below_alloc (Below.refl _ _) _⟩
    · refine ⟨by simp [h.1]; omega, fun _ => ?_⟩
      obtain ⟨b, off, rfl, hlt, hcell⟩ := h.2 (by omega)
      refine ⟨b, off, rfl, hlt, fun j hj => ?_⟩
      rw [hcell j (by omega)]
      simp [List.getD_eq_getElem?_getD, hj]
    · intro j
      by_cases hj : j < 2000
      · have := hb j
        simpa [List.getD_eq_getElem?_getD, hj] using this
      · rw [List.getD_eq_getElem?_getD, List.getElem?_eq_none (by simp; omega)]; simp
end Go.Proofs.Ytiadnbdefcimiaa

/- The model's reader lies where it lay. -/
namespace Go.Proofs.Ytiadnbdefcimiaa
open Go.RowKit

theorem Rdr.lt {w0 w : World} {g p : Nat} (h : Rdr w0 w g p) : g < w.heap.size := by
  obtain ⟨_, _, _, _, h1, _⟩ := h; exact (Array.getElem?_eq_some_iff.1 h1).1
theorem Rdr.base {w0 w : World} {g p : Nat} (h : Rdr w0 w g p) : w0.heap.size ≤ g := by
  obtain ⟨_, _, _, _, _, _, _, _, h5, _⟩ := h; exact h5
theorem Rdr.bel_ {w0 w : World} {g p : Nat} (h : Rdr w0 w g p) : Below w0.heap.size w0 w := by
  obtain ⟨_, _, _, _, _, _, _, _, _, hb⟩ := h; exact hb
theorem Rdr.kept {w0 w w' : World} {g p : Nat} {row : Option Nat} (h : Rdr w0 w g p) (hg : w.grownBy w' row) (hr : ∀ k, row = some k → g < k) : Rdr w0 w' g p := by
  have hlt := h.lt
  obtain ⟨A, n, c, bs, h1, h2, h3, h4, h5, h6⟩ := h
  exact ⟨A, n, c, bs, (hg.block g hlt (fun e => by have := hr g e.symm; omega)).trans h1, h2, h3, h4, h5, h6.grown hg h6.size (fun k e => by have := hr k e; omega)⟩
theorem grown_new {a b c : World} {g : Nat} {row : Option Nat} (h : a.grownBy b (some g)) (k : b.grownBy c row) (hr : ∀ j, row = some j → a.heap.size ≤ j) : a.grownBy c (some g) :=
  ⟨k.os.trans h.os, k.tape.trans h.tape, k.output.trans h.output, Nat.le_trans h.size k.size, fun i hi hne => (k.block i (Nat.lt_of_lt_of_le hi h.size) (fun e => by have := hr i e.symm; omega)).trans (h.block i hi hne)⟩
end Go.Proofs.Ytiadnbdefcimiaa
