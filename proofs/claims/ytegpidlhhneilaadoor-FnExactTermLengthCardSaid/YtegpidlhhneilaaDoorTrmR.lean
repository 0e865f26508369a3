/- The model's reading of terms: l10Read. -/
import Derived.Test.YtegpidlhhneilaaDoorTrmM
namespace Go.Proofs.YtegpidlhhneilaaDoor
open Go.RowKit Go.Sort Go.Lib
/-- Blocks from a number on are as they were. -/
def KeepIn (lo : Nat) (w w' : World) : Prop := w.heap.size ≤ w'.heap.size ∧ ∀ b o, lo ≤ b → b < w.heap.size → w'.cell? ⟨b, o, none⟩ = w.cell? ⟨b, o, none⟩
theorem KeepIn.refl (lo : Nat) (w : World) : KeepIn lo w w := ⟨Nat.le_refl _, fun _ _ _ _ => rfl⟩
theorem KeepIn.alloc {lo : Nat} {w w' : World} (h : KeepIn lo w w') (o : Obj) : KeepIn lo w (w'.alloc o) :=
  ⟨by have := h.1; simp only [World.size_alloc]; omega, fun b q h1 h2 => by rw [World.cell?_alloc_lt _ _ _ (by show b < _; have := h.1; omega)]; exact h.2 b q h1 h2⟩
theorem KeepIn.set {lo : Nat} {w w' : World} {g : Nat} (h : KeepIn lo w w') (hg : g < lo ∨ w.heap.size ≤ g) (v1 : Nat) (v : Value) : KeepIn lo w (w'.setCell ⟨g, v1, none⟩ v) :=
  ⟨by have := h.1; simp only [World.size_setCell]; omega, fun b q h1 h2 => by rw [World.cell?_setCell_far _ _ _ _ (by show g ≠ b; omega)]; exact h.2 b q h1 h2⟩
theorem KeepIn.below {lo B : Nat} {w w' w'' : World} (h : KeepIn lo w w') (hb : Below B w' w'') (hB : w.heap.size ≤ B) : KeepIn lo w w'' :=
  ⟨Nat.le_trans h.1 hb.size, fun b q h1 h2 => (hb.cell (p := ⟨b, q, none⟩) (by show b < B; omega)).trans (h.2 b q h1 h2)⟩
/-- A term in memory, in blocks from a number on: its sign, its slice of terms. -/
def TmI (lo : Nat) (w : World) : Tm → Int → Option Addr → Nat → Prop
  | .l k, s, _, _ => s = ((letB k).toNat : Int)
  | .b t, s, A, n => s = 45 ∧ n = 1 ∧ ∃ b s' A' n' c', A = some ⟨b, 0, none⟩ ∧ lo ≤ b ∧ b < w.heap.size ∧ w.cell? ⟨b, 0, none⟩ = some (.int .u8 s') ∧ w.cell? ⟨b, 1, none⟩ = some (.slice A' n' c') ∧ TmI lo w t s' A' n'
  | .u t, s, A, n => s = 64 ∧ n = 1 ∧ ∃ b s' A' n' c', A = some ⟨b, 0, none⟩ ∧ lo ≤ b ∧ b < w.heap.size ∧ w.cell? ⟨b, 0, none⟩ = some (.int .u8 s') ∧ w.cell? ⟨b, 1, none⟩ = some (.slice A' n' c') ∧ TmI lo w t s' A' n'
  | .r d t, s, A, n => s = (d : Int) + 48 ∧ n = 1 ∧ ∃ b s' A' n' c', A = some ⟨b, 0, none⟩ ∧ lo ≤ b ∧ b < w.heap.size ∧ w.cell? ⟨b, 0, none⟩ = some (.int .u8 s') ∧ w.cell? ⟨b, 1, none⟩ = some (.slice A' n' c') ∧ TmI lo w t s' A' n'
  | .j a c, s, A, n => s = 43 ∧ n = 2 ∧ ∃ b s1 A1 n1 c1 s2 A2 n2 c2, A = some ⟨b, 0, none⟩ ∧ lo ≤ b ∧ b < w.heap.size ∧ w.cell? ⟨b, 0, none⟩ = some (.int .u8 s1) ∧ w.cell? ⟨b, 1, none⟩ = some (.slice A1 n1 c1) ∧ w.cell? ⟨b, 2, none⟩ = some (.int .u8 s2) ∧ w.cell? ⟨b, 3, none⟩ = some (.slice A2 n2 c2) ∧ TmI lo w a s1 A1 n1 ∧ TmI lo w c s2 A2 n2
theorem TmI.keep {lo lo' : Nat} {w w' : World} (hk : KeepIn lo w w') (hlo : lo' ≤ lo) : ∀ {t : Tm} {s : Int} {A : Option Addr} {n : Nat}, TmI lo w t s A n → TmI lo' w' t s A n
  | .l _, _, _, _, h => h
  | .b _, _, _, _, ⟨h1, h2, b, s', A', n', c', h3, h4, h5, h6, h7, h8⟩ => ⟨h1, h2, b, s', A', n', c', h3, Nat.le_trans hlo h4, Nat.lt_of_lt_of_le h5 hk.1, (hk.2 b _ h4 h5).trans h6, (hk.2 b _ h4 h5).trans h7, h8.keep hk hlo⟩
  | .u _, _, _, _, ⟨h1, h2, b, s', A', n', c', h3, h4, h5, h6, h7, h8⟩ => ⟨h1, h2, b, s', A', n', c', h3, Nat.le_trans hlo h4, Nat.lt_of_lt_of_le h5 hk.1, (hk.2 b _ h4 h5).trans h6, (hk.2 b _ h4 h5).trans h7, h8.keep hk hlo⟩
  | .r _ _, _, _, _, ⟨h1, h2, b, s', A', n', c', h3, h4, h5, h6, h7, h8⟩ => ⟨h1, h2, b, s', A', n', c', h3, Nat.le_trans hlo h4, Nat.lt_of_lt_of_le h5 hk.1, (hk.2 b _ h4 h5).trans h6, (hk.2 b _ h4 h5).trans h7, h8.keep hk hlo⟩
  | .j _ _, _, _, _, ⟨h1, h2, b, s1, A1, n1, c1, s2, A2, n2, c2, h3, h4, h5, h6, h7, h8, h9, h10, h11⟩ => ⟨h1, h2, b, s1, A1, n1, c1, s2, A2, n2, c2, h3, Nat.le_trans hlo h4, Nat.lt_of_lt_of_le h5 hk.1, (hk.2 b _ h4 h5).trans h6, (hk.2 b _ h4 h5).trans h7, (hk.2 b _ h4 h5).trans h8, (hk.2 b _ h4 h5).trans h9, h10.keep hk hlo, h11.keep hk hlo⟩
/-- What reading from a place on tells. -/
def RdG (lo : Nat) (w : World) (l : List UInt8) (x : Option (Tm × List UInt8)) (s : Int) (A : Option Addr) (n : Nat) (q : Nat) : Prop :=
  match x with
  | some (t, r) => 0 < q ∧ q ≤ l.length ∧ r = l.drop q ∧ TmI lo w t s A n
  | none => q = 0
def RdC (f : Nat) (l : List UInt8) (i : Nat) (w : World) : Prop := Calls Tryd.prog 21 #[.string (bsB l), .int .i64 i] w fun e w' => (∃ s A n c q, e = .returned (.tuple #[.agg #[.int .u8 s, .slice A n c], .int .i64 (q : Nat)]) ∧ RdG w.heap.size w' l (rdT f (l.drop i)) s A n q) ∧ Below w.heap.size w w'
theorem bsB_at {l : List UInt8} {i : Nat} {c : UInt8} {r : List UInt8} (h : l.drop i = c :: r) : i < l.length ∧ r = l.drop (i + 1) ∧ ∀ hh, (bsB l)[i]'hh = c := by
  have h1 : i < l.length := by
    rcases Nat.lt_or_ge i l.length with h' | h'
    · exact h'
    · rw [List.drop_eq_nil_of_le h'] at h; cases h
  have h2 := List.drop_eq_getElem_cons h1
  rw [h2] at h
  injection h with h3 h4
  exact ⟨h1, h4.symm, fun hh => by rw [← h3]; simp [bsB, ByteArray.getElem_eq_getElem_data]⟩
theorem rdT_end (f : Nat) : rdT f [] = none := by cases f <;> rfl
set_option maxRecDepth 100000 in
set_option maxHeartbeats 8000000 in
theorem l10Read_end (l : List UInt8) (f i : Nat) (w : World) (hi : l.length ≤ i) (_ : l.length ≤ 60) : RdC f l i w := by
  have hsz := bsB_size l
  have hd : l.drop i = [] := List.drop_eq_nil_of_le (by omega)
  have d1 : decide ((l.length : Int) ≤ (i : Int)) = true := decide_eq_true (by omega)
  unfold RdC
  rw [hd, rdT_end]
  have HN := Lib.hid (fun (W : World) s A n => show RdG w.heap.size W l none s A n 0 from rfl)
  go_enter Tryd.func21, Tryd.ntmps21
  go_wp2_with fail
  refine bodyPost_ret (v := .tuple #[.agg #[.int .u8 110, .slice (some ⟨w.heap.size + 1, 0, none⟩) 0 0], .int .i64 0]) (by simp [results, Tryd.f21, go_sem]) rfl ?_
  exact ⟨⟨_, _, _, _, 0, rfl, HN.out _ _ _ _⟩, by repeat (first | exact Below.refl _ _ | refine below_alloc ?_ _ | refine bel_set ?_ (by simp only [World.size_setCell, World.size_alloc]; omega) _ _ | refine bel_set ?_ (by omega) _ _ | refine Below.drew ?_)⟩
set_option maxRecDepth 100000 in
set_option maxHeartbeats 8000000 in
theorem l10Read_let (l : List UInt8) (hl : l.length ≤ 60) (f i : Nat) (w : World) (c : UInt8) (s : List UInt8) (hd : l.drop i = c :: s) (k : Nat) (hk : letK c = some k) : RdC (f + 1) l i w := by
  have hsz := bsB_size l
  obtain ⟨hil, hs, hget0⟩ := bsB_at hd
  have d1 : decide ((l.length : Int) ≤ (i : Int)) = false := decide_eq_false (by omega)
  have HC := Lib.hid (rdT_cons f c s)
  have gi : (i : Int) < (l.length : Int) := by omega
  have hk4 := letK_some hk
  rw [hk] at HC
  dsimp only at HC
  unfold RdC
  rw [hd]
  have HN := Lib.hid (fun (W : World) A n => show RdG w.heap.size W l (rdT (f + 1) (c :: s)) ((letB k).toNat : Int) A n (i + 1) by rw [HC.out]; exact ⟨by omega, by omega, hs, rfl⟩)
  have hget : ∀ h, (bsB l)[i]'h = letB k := fun h => by rw [hget0, hk4.2]
  clear HC hget0 hd hk hs
  generalize rdT (f + 1) (c :: s) = X at *
  obtain h0 | h0 | h0 | h0 : k = 0 ∨ k = 1 ∨ k = 2 ∨ k = 3 := by omega
  · subst h0
    have hget2 : ∀ h, (((bsB l)[i]'h).toNat : Int) = 101 := fun h => by rw [hget]; rfl
    have HN2 := Lib.hid (fun (W : World) A n => show RdG w.heap.size W l X 101 A n (i + 1) from HN.out W A n)
    clear hget HN hk4
    go_enter Tryd.func21, Tryd.ntmps21
    go_wp2_with fail
    refine bodyPost_ret (v := .tuple #[.agg #[.int .u8 101, .slice (some ⟨w.heap.size + 1 + 1 + 1, 0, none⟩) 0 0], .int .i64 ((i + 1 : Nat) : Int)]) (by simp [results, Tryd.f21, go_sem]) rfl ?_
    exact ⟨⟨_, _, _, _, i + 1, rfl, HN2.out _ _ _⟩, by repeat (first | exact Below.refl _ _ | refine below_alloc ?_ _ | refine bel_set ?_ (by simp only [World.size_setCell, World.size_alloc]; omega) _ _ | refine bel_set ?_ (by omega) _ _ | refine Below.drew ?_)⟩
  · subst h0
    have hget2 : ∀ h, (((bsB l)[i]'h).toNat : Int) = 110 := fun h => by rw [hget]; rfl
    have HN2 := Lib.hid (fun (W : World) A n => show RdG w.heap.size W l X 110 A n (i + 1) from HN.out W A n)
    clear hget HN hk4
    go_enter Tryd.func21, Tryd.ntmps21
    go_wp2_with fail
    refine bodyPost_ret (v := .tuple #[.agg #[.int .u8 110, .slice (some ⟨w.heap.size + 1 + 1 + 1, 0, none⟩) 0 0], .int .i64 ((i + 1 : Nat) : Int)]) (by simp [results, Tryd.f21, go_sem]) rfl ?_
    exact ⟨⟨_, _, _, _, i + 1, rfl, HN2.out _ _ _⟩, by repeat (first | exact Below.refl _ _ | refine below_alloc ?_ _ | refine bel_set ?_ (by simp only [World.size_setCell, World.size_alloc]; omega) _ _ | refine bel_set ?_ (by omega) _ _ | refine Below.drew ?_)⟩
  · subst h0
    have hget2 : ∀ h, (((bsB l)[i]'h).toNat : Int) = 119 := fun h => by rw [hget]; rfl
    have HN2 := Lib.hid (fun (W : World) A n => show RdG w.heap.size W l X 119 A n (i + 1) from HN.out W A n)
    clear hget HN hk4
    go_enter Tryd.func21, Tryd.ntmps21
    go_wp2_with fail
    refine bodyPost_ret (v := .tuple #[.agg #[.int .u8 119, .slice (some ⟨w.heap.size + 1 + 1 + 1, 0, none⟩) 0 0], .int .i64 ((i + 1 : Nat) : Int)]) (by simp [results, Tryd.f21, go_sem]) rfl ?_
    exact ⟨⟨_, _, _, _, i + 1, rfl, HN2.out _ _ _⟩, by repeat (first | exact Below.refl _ _ | refine below_alloc ?_ _ | refine bel_set ?_ (by simp only [World.size_setCell, World.size_alloc]; omega) _ _ | refine bel_set ?_ (by omega) _ _ | refine Below.drew ?_)⟩
  · subst h0
    have hget2 : ∀ h, (((bsB l)[i]'h).toNat : Int) = 115 := fun h => by rw [hget]; rfl
    have HN2 := Lib.hid (fun (W : World) A n => show RdG w.heap.size W l X 115 A n (i + 1) from HN.out W A n)
    clear hget HN hk4
    go_enter Tryd.func21, Tryd.ntmps21
    go_wp2_with fail
    refine bodyPost_ret (v := .tuple #[.agg #[.int .u8 115, .slice (some ⟨w.heap.size + 1 + 1 + 1, 0, none⟩) 0 0], .int .i64 ((i + 1 : Nat) : Int)]) (by simp [results, Tryd.f21, go_sem]) rfl ?_
    exact ⟨⟨_, _, _, _, i + 1, rfl, HN2.out _ _ _⟩, by repeat (first | exact Below.refl _ _ | refine below_alloc ?_ _ | refine bel_set ?_ (by simp only [World.size_setCell, World.size_alloc]; omega) _ _ | refine bel_set ?_ (by omega) _ _ | refine Below.drew ?_)⟩
theorem TmI.sgn {lo lo1 : Nat} {w w2 : World} {c : UInt8} {t t2 : Tm} {b n' : Nat} {s' : Int} {A' : Option Addr} {c' : Nat} (h : sgnT c t = some t2) (hk : KeepIn lo1 w2 w) (hlo : lo ≤ lo1) (hb : lo ≤ b) (hlt : b < w.heap.size) (h0 : w.cell? ⟨b, 0, none⟩ = some (.int .u8 s')) (h1 : w.cell? ⟨b, 1, none⟩ = some (.slice A' n' c')) (ht : TmI lo1 w2 t s' A' n') : TmI lo w t2 (c.toNat : Int) (some ⟨b, 0, none⟩) 1 := by
  have hx : ∃ b' s'' A'' n'' c'', (some ⟨b, 0, none⟩ : Option Addr) = some ⟨b', 0, none⟩ ∧ lo ≤ b' ∧ b' < w.heap.size ∧ w.cell? ⟨b', 0, none⟩ = some (.int .u8 s'') ∧ w.cell? ⟨b', 1, none⟩ = some (.slice A'' n'' c'') ∧ TmI lo w t s'' A'' n'' := ⟨b, s', A', n', c', rfl, hb, hlt, h0, h1, ht.keep hk hlo⟩
  unfold sgnT at h
  split at h
  · rename_i e; cases h; subst e; exact ⟨rfl, rfl, hx⟩
  · split at h
    · rename_i e; cases h; subst e; exact ⟨rfl, rfl, hx⟩
    · split at h
      · rename_i e
        cases h
        have := digit_nat e
        exact ⟨by omega, rfl, hx⟩
      · cases h
theorem RdG.sgn {lo lo1 : Nat} {w w2 : World} {l : List UInt8} {f : Nat} {s : List UInt8} {c : UInt8} {b n' q : Nat} {s' z : Int} {A' : Option Addr} {c' : Nat} (hk0 : letK c = none) (h40 : c ≠ 40) (hsg : ∀ t, ∃ t2, sgnT c t = some t2) (hz : z = (c.toNat : Int)) (g : RdG lo1 w2 l (rdT f s) s' A' n' q) (hk : KeepIn lo1 w2 w) (hlo : lo ≤ lo1) (hb : lo ≤ b) (hlt : b < w.heap.size) (h0 : w.cell? ⟨b, 0, none⟩ = some (.int .u8 s')) (h1 : w.cell? ⟨b, 1, none⟩ = some (.slice A' n' c')) : RdG lo w l (rdT (f + 1) (c :: s)) z (some ⟨b, 0, none⟩) 1 q := by
  rw [rdT_cons, hk0]
  dsimp only
  rw [if_neg h40]
  cases hr : rdT f s with
  | none =>
    rw [hr] at g
    exact g
  | some y =>
    obtain ⟨t, r⟩ := y
    rw [hr] at g
    obtain ⟨t2, h2⟩ := hsg t
    obtain ⟨g1, g2, g3, g4⟩ := g
    dsimp only
    rw [h2]
    refine ⟨g1, g2, g3, ?_⟩
    rw [hz]
    exact TmI.sgn h2 hk hlo hb hlt h0 h1 g4
theorem old_three (w : World) (a b : Value) (T : TypeId) (o2 o3 : Obj) : (((w.alloc (.cells #[a, b] T)).alloc o2).alloc o3).cell? ⟨w.heap.size, 0, none⟩ = some a ∧ (((w.alloc (.cells #[a, b] T)).alloc o2).alloc o3).cell? ⟨w.heap.size, 1, none⟩ = some b ∧ (((w.alloc (.cells #[a, b] T)).alloc o2).alloc o3).frozen? ⟨w.heap.size, 0, none⟩ = false ∧ (((w.alloc (.cells #[a, b] T)).alloc o2).alloc o3).frozen? ⟨w.heap.size, 1, none⟩ = false := by
  refine ⟨?_, ?_, ?_, ?_⟩
  · rw [World.cell?_alloc_lt _ _ _ (by simp only [World.size_alloc]; omega), World.cell?_alloc_lt _ _ _ (by simp only [World.size_alloc]; omega)]; simp
  · rw [World.cell?_alloc_lt _ _ _ (by simp only [World.size_alloc]; omega), World.cell?_alloc_lt _ _ _ (by simp only [World.size_alloc]; omega)]; simp
  · rw [World.frozen?_alloc_old _ _ _ (by simp only [World.size_alloc]; omega), World.frozen?_alloc_old _ _ _ (by simp only [World.size_alloc]; omega)]; simp
  · rw [World.frozen?_alloc_old _ _ _ (by simp only [World.size_alloc]; omega), World.frozen?_alloc_old _ _ _ (by simp only [World.size_alloc]; omega)]; simp
theorem new_two (W : World) (b : Nat) (a c : Value) (T : TypeId) (h : b = W.heap.size) : (W.alloc (.cells #[a, c] T)).cell? ⟨b, 0, none⟩ = some a ∧ (W.alloc (.cells #[a, c] T)).cell? ⟨b, 1, none⟩ = some c := by subst h; exact ⟨by simp, by simp⟩
theorem bel_set {B : Nat} {w w' : World} {g : Nat} (h : Below B w w') (hg : B ≤ g) (j : Nat) (v : Value) : Below B w (w'.setCell ⟨g, j, none⟩ v) := h.setCell (p := ⟨g, j, none⟩) hg v
set_option maxRecDepth 100000 in
set_option maxHeartbeats 8000000 in
theorem l10Read_back (l : List UInt8) (hl : l.length ≤ 60) (f i : Nat) (w : World) (s : List UInt8) (hd : l.drop i = 45 :: s) (ih : ∀ W, RdC f l (i + 1) W) : RdC (f + 1) l i w := by
  have hsz := bsB_size l
  obtain ⟨hil, hs, hget0⟩ := bsB_at hd
  have d1 : decide ((l.length : Int) ≤ (i : Int)) = false := decide_eq_false (by omega)
  have gi : (i : Int) < (l.length : Int) := by omega
  have hget2 : ∀ h, (((bsB l)[i]'h).toNat : Int) = 45 := fun h => by rw [hget0]; rfl
  have HI := Lib.hid ih
  unfold RdC at HI
  rw [← hs, show (((i + 1 : Nat)) : Int) = (i : Int) + 1 from rfl] at HI
  have HZ := Lib.hid (fun (w2 W : World) lo1 b n' q s' A' c' => RdG.sgn (c := 45) (z := 45) (lo := w.heap.size) (lo1 := lo1) (w2 := w2) (w := W) (b := b) (n' := n') (q := q) (s' := s') (A' := A') (c' := c') (l := l) (f := f) (s := s) rfl (by decide) (fun t => ⟨_, rfl⟩) rfl)
  unfold RdC
  rw [hd]
  clear hget0 hd hs ih
  generalize rdT (f + 1) (45 :: s) = X at *
  go_enter Tryd.func21, Tryd.ntmps21
  go_wp2_with fail
  refine (HI.out _).mono ?_
  rintro e w2 ⟨⟨s', A', n', c', q, rfl, g2⟩, b2⟩
  have hs2 := b2.size
  simp only [World.size_alloc] at hs2 g2
  obtain ⟨u0, u1, u2, u3⟩ := old_three w (.int .u8 0) (.slice none 0 0) 29 (.cells #[] 29) (.cells #[.int .u8 110, .slice (some ⟨w.heap.size + 1, 0, none⟩) 0 0] 29)
  rw [← b2.cell (by simp only [World.size_alloc]; omega)] at u0 u1
  rw [← b2.frozen (by simp only [World.size_alloc]; omega)] at u2 u3
  have b3 : Below w.heap.size w w2 := Below.trans (show Below w.heap.size w _ by repeat (first | exact Below.refl _ _ | refine below_alloc ?_ _ | refine bel_set ?_ (by simp only [World.size_setCell, World.size_alloc]; omega) _ _ | refine bel_set ?_ (by omega) _ _ | refine Below.drew ?_)) (b2.mono (by simp only [World.size_alloc]; omega))
  clear b2
  have G := Lib.hid g2
  have B3 := Lib.hid b3
  have HS2 := Lib.hid hs2
  clear g2 b3
  have k0 : w.heap.size < w2.heap.size := by omega
  have k1 : w.heap.size ≠ w2.heap.size := by omega
  have k2 : w.heap.size ≠ w2.heap.size + 1 := by omega
  clear hs2
  go_wp2_with fail
  refine bodyPost_ret (v := .tuple #[.agg #[.int .u8 45, .slice (some ⟨w2.heap.size + 1, 0, none⟩) 1 1], .int .i64 q]) (by simp [results, Tryd.f21, go_sem, u0, u1, k0]) rfl ?_
  have b3 := B3.out
  have hs2 := HS2.out
  refine ⟨⟨_, _, _, _, q, rfl, HZ.out w2 _ (w.heap.size + 1 + 1 + 1) (w2.heap.size + 1) n' q s' A' c' G.out ?_ (by omega) (by omega) ?_ ?_ ?_⟩, ?_⟩
  · repeat (first | exact KeepIn.refl _ _ | refine KeepIn.alloc ?_ _ | refine KeepIn.set ?_ (by first | (left; omega) | (right; omega)) _ _)
  · simp only [World.size_setCell, World.size_alloc]; omega
  · exact (new_two _ _ _ _ _ (by simp only [World.size_setCell, World.size_alloc])).1
  · exact (new_two _ _ _ _ _ (by simp only [World.size_setCell, World.size_alloc])).2
  · repeat (first | exact b3 | refine below_alloc ?_ _ | refine bel_set ?_ (by omega) _ _)
set_option maxRecDepth 100000 in
set_option maxHeartbeats 8000000 in
theorem l10Read_turn (l : List UInt8) (hl : l.length ≤ 60) (f i : Nat) (w : World) (s : List UInt8) (hd : l.drop i = 64 :: s) (ih : ∀ W, RdC f l (i + 1) W) : RdC (f + 1) l i w := by
  have hsz := bsB_size l
  obtain ⟨hil, hs, hget0⟩ := bsB_at hd
  have d1 : decide ((l.length : Int) ≤ (i : Int)) = false := decide_eq_false (by omega)
  have gi : (i : Int) < (l.length : Int) := by omega
  have hget2 : ∀ h, (((bsB l)[i]'h).toNat : Int) = 64 := fun h => by rw [hget0]; rfl
  have HI := Lib.hid ih
  unfold RdC at HI
  rw [← hs, show (((i + 1 : Nat)) : Int) = (i : Int) + 1 from rfl] at HI
  have HZ := Lib.hid (fun (w2 W : World) lo1 b n' q s' A' c' => RdG.sgn (c := 64) (z := 64) (lo := w.heap.size) (lo1 := lo1) (w2 := w2) (w := W) (b := b) (n' := n') (q := q) (s' := s') (A' := A') (c' := c') (l := l) (f := f) (s := s) rfl (by decide) (fun t => ⟨_, rfl⟩) rfl)
  unfold RdC
  rw [hd]
  clear hget0 hd hs ih
  generalize rdT (f + 1) (64 :: s) = X at *
  go_enter Tryd.func21, Tryd.ntmps21
  go_wp2_with fail
  refine (HI.out _).mono ?_
  rintro e w2 ⟨⟨s', A', n', c', q, rfl, g2⟩, b2⟩
  have hs2 := b2.size
  simp only [World.size_alloc] at hs2 g2
  obtain ⟨u0, u1, u2, u3⟩ := old_three w (.int .u8 0) (.slice none 0 0) 29 (.cells #[] 29) (.cells #[.int .u8 110, .slice (some ⟨w.heap.size + 1, 0, none⟩) 0 0] 29)
  rw [← b2.cell (by simp only [World.size_alloc]; omega)] at u0 u1
  rw [← b2.frozen (by simp only [World.size_alloc]; omega)] at u2 u3
  have b3 : Below w.heap.size w w2 := Below.trans (show Below w.heap.size w _ by repeat (first | exact Below.refl _ _ | refine below_alloc ?_ _ | refine bel_set ?_ (by simp only [World.size_setCell, World.size_alloc]; omega) _ _ | refine bel_set ?_ (by omega) _ _ | refine Below.drew ?_)) (b2.mono (by simp only [World.size_alloc]; omega))
  clear b2
  have G := Lib.hid g2
  have B3 := Lib.hid b3
  have HS2 := Lib.hid hs2
  clear g2 b3
  have k0 : w.heap.size < w2.heap.size := by omega
  have k1 : w.heap.size ≠ w2.heap.size := by omega
  have k2 : w.heap.size ≠ w2.heap.size + 1 := by omega
  clear hs2
  go_wp2_with fail
  refine bodyPost_ret (v := .tuple #[.agg #[.int .u8 64, .slice (some ⟨w2.heap.size + 1, 0, none⟩) 1 1], .int .i64 q]) (by simp [results, Tryd.f21, go_sem, u0, u1, k0]) rfl ?_
  have b3 := B3.out
  have hs2 := HS2.out
  refine ⟨⟨_, _, _, _, q, rfl, HZ.out w2 _ (w.heap.size + 1 + 1 + 1) (w2.heap.size + 1) n' q s' A' c' G.out ?_ (by omega) (by omega) ?_ ?_ ?_⟩, ?_⟩
  · repeat (first | exact KeepIn.refl _ _ | refine KeepIn.alloc ?_ _ | refine KeepIn.set ?_ (by first | (left; omega) | (right; omega)) _ _)
  · simp only [World.size_setCell, World.size_alloc]; omega
  · exact (new_two _ _ _ _ _ (by simp only [World.size_setCell, World.size_alloc])).1
  · exact (new_two _ _ _ _ _ (by simp only [World.size_setCell, World.size_alloc])).2
  · repeat (first | exact b3 | refine below_alloc ?_ _ | refine bel_set ?_ (by omega) _ _)
set_option maxRecDepth 100000 in
set_option maxHeartbeats 8000000 in
theorem l10Read_digit (l : List UInt8) (hl : l.length ≤ 60) (f i : Nat) (w : World) (c : UInt8) (hk : letK c = none) (h40 : c ≠ 40) (hdg : 50 ≤ c ∧ c ≤ 57) (s : List UInt8) (hd : l.drop i = c :: s) (ih : ∀ W, RdC f l (i + 1) W) : RdC (f + 1) l i w := by
  have hsz := bsB_size l
  obtain ⟨hil, hs, hget0⟩ := bsB_at hd
  have d1 : decide ((l.length : Int) ≤ (i : Int)) = false := decide_eq_false (by omega)
  have gi : (i : Int) < (l.length : Int) := by omega
  obtain ⟨z, hz⟩ : ∃ z : Int, z = (c.toNat : Int) := ⟨_, rfl⟩
  have hget2 : ∀ h, (((bsB l)[i]'h).toNat : Int) = z := fun h => by rw [hget0]; exact hz.symm
  have hdn := digit_nat hdg
  have hz5 : 50 ≤ z ∧ z ≤ 57 := by omega
  have HI := Lib.hid ih
  unfold RdC at HI
  rw [← hs, show (((i + 1 : Nat)) : Int) = (i : Int) + 1 from rfl] at HI
  have HZ := Lib.hid (fun (w2 W : World) lo1 b n' q s' A' c' => RdG.sgn (c := c) (z := z) (lo := w.heap.size) (lo1 := lo1) (w2 := w2) (w := W) (b := b) (n' := n') (q := q) (s' := s') (A' := A') (c' := c') (l := l) (f := f) (s := s) hk h40 (fun t => ⟨_, by unfold sgnT; rw [if_neg (fun e => by rw [e] at hdn; simp at hdn), if_neg (fun e => by rw [e] at hdn; simp at hdn), if_pos hdg]⟩) hz)
  unfold RdC
  rw [hd]
  clear hget0 hd hs ih
  generalize rdT (f + 1) (c :: s) = X at *
  have q0 : (z == 110) = false := by simp; omega
  have q1 : (z == 101) = false := by simp; omega
  have q2 : (z == 115) = false := by simp; omega
  have q3 : (z == 119) = false := by simp; omega
  have q4 : (z == 45) = false := by simp; omega
  have q5 : (z == 64) = false := by simp; omega
  have d3 : decide ((50 : Int) ≤ z) = true := decide_eq_true (by omega)
  have d4 : decide (z ≤ 57) = true := decide_eq_true (by omega)
  clear hz hdn hz5 hdg hk h40
  go_enter Tryd.func21, Tryd.ntmps21
  go_wp2_with fail
  refine (HI.out _).mono ?_
  rintro e w2 ⟨⟨s', A', n', c', q, rfl, g2⟩, b2⟩
  have hs2 := b2.size
  simp only [World.size_alloc] at hs2 g2
  obtain ⟨u0, u1, u2, u3⟩ := old_three w (.int .u8 0) (.slice none 0 0) 29 (.cells #[] 29) (.cells #[.int .u8 110, .slice (some ⟨w.heap.size + 1, 0, none⟩) 0 0] 29)
  rw [← b2.cell (by simp only [World.size_alloc]; omega)] at u0 u1
  rw [← b2.frozen (by simp only [World.size_alloc]; omega)] at u2 u3
  have b3 : Below w.heap.size w w2 := Below.trans (show Below w.heap.size w _ by repeat (first | exact Below.refl _ _ | refine below_alloc ?_ _ | refine bel_set ?_ (by simp only [World.size_setCell, World.size_alloc]; omega) _ _ | refine bel_set ?_ (by omega) _ _ | refine Below.drew ?_)) (b2.mono (by simp only [World.size_alloc]; omega))
  clear b2
  have G := Lib.hid g2
  have B3 := Lib.hid b3
  have HS2 := Lib.hid hs2
  clear g2 b3
  have k0 : w.heap.size < w2.heap.size := by omega
  have k1 : w.heap.size ≠ w2.heap.size := by omega
  have k2 : w.heap.size ≠ w2.heap.size + 1 := by omega
  clear hs2
  go_wp2_with fail
  refine bodyPost_ret (v := .tuple #[.agg #[.int .u8 z, .slice (some ⟨w2.heap.size + 1, 0, none⟩) 1 1], .int .i64 q]) (by simp [results, Tryd.f21, go_sem, u0, u1, k0]) rfl ?_
  have b3 := B3.out
  have hs2 := HS2.out
  refine ⟨⟨_, _, _, _, q, rfl, HZ.out w2 _ (w.heap.size + 1 + 1 + 1) (w2.heap.size + 1) n' q s' A' c' G.out ?_ (by omega) (by omega) ?_ ?_ ?_⟩, ?_⟩
  · repeat (first | exact KeepIn.refl _ _ | refine KeepIn.alloc ?_ _ | refine KeepIn.set ?_ (by first | (left; omega) | (right; omega)) _ _)
  · simp only [World.size_setCell, World.size_alloc]; omega
  · exact (new_two _ _ _ _ _ (by simp only [World.size_setCell, World.size_alloc])).1
  · exact (new_two _ _ _ _ _ (by simp only [World.size_setCell, World.size_alloc])).2
  · repeat (first | exact b3 | refine below_alloc ?_ _ | refine bel_set ?_ (by omega) _ _)
set_option maxRecDepth 100000 in
set_option maxHeartbeats 8000000 in
theorem l10Read_other (l : List UInt8) (_ : l.length ≤ 60) (f i : Nat) (w : World) (c : UInt8) (hk : letK c = none) (h40 : c ≠ 40) (hsg : ∀ t, sgnT c t = none) (s : List UInt8) (hd : l.drop i = c :: s) : RdC (f + 1) l i w := by
  have hsz := bsB_size l
  obtain ⟨hil, hs, hget0⟩ := bsB_at hd
  have d1 : decide ((l.length : Int) ≤ (i : Int)) = false := decide_eq_false (by omega)
  have gi : (i : Int) < (l.length : Int) := by omega
  obtain ⟨z, hz⟩ : ∃ z : Int, z = (c.toNat : Int) := ⟨_, rfl⟩
  have hget2 : ∀ h, (((bsB l)[i]'h).toNat : Int) = z := fun h => by rw [hget0]; exact hz.symm
  have hX : rdT (f + 1) (c :: s) = none := by
    rw [rdT_cons, hk]
    dsimp only
    rw [if_neg h40]
    cases rdT f s with
    | none => rfl
    | some y => obtain ⟨t, r⟩ := y; dsimp only; rw [hsg t]
  unfold RdC
  rw [hd, hX]
  have HN := Lib.hid (fun (W : World) s A n => show RdG w.heap.size W l none s A n 0 from rfl)
  have ne : ∀ k : Nat, k < 256 → c ≠ UInt8.ofNat k → (z == (k : Int)) = false := fun k h1 h2 => by rw [hz]; exact u8_ne h1 h2
  have hkn : c ≠ 101 ∧ c ≠ 110 ∧ c ≠ 119 ∧ c ≠ 115 := by
    refine ⟨fun e => ?_, fun e => ?_, fun e => ?_, fun e => ?_⟩ <;> (subst e; exact absurd hk (by decide))
  have hsn : c ≠ 45 ∧ c ≠ 64 ∧ ¬ (50 ≤ c ∧ c ≤ 57) := by
    have h1 := hsg (.l 0)
    unfold sgnT at h1
    refine ⟨fun e => ?_, fun e => ?_, fun e => ?_⟩
    · rw [if_pos e] at h1; cases h1
    · split at h1
      · cases h1
      · first | cases h1 | (rw [if_pos e] at h1; cases h1)
    · split at h1
      · cases h1
      · split at h1
        · cases h1
        · first | cases h1 | (rw [if_pos e] at h1; cases h1)
  have q0 : (z == 110) = false := ne 110 (by omega) hkn.2.1
  have q1 : (z == 101) = false := ne 101 (by omega) hkn.1
  have q2 : (z == 115) = false := ne 115 (by omega) hkn.2.2.2
  have q3 : (z == 119) = false := ne 119 (by omega) hkn.2.2.1
  have q4 : (z == 45) = false := ne 45 (by omega) hsn.1
  have q5 : (z == 64) = false := ne 64 (by omega) hsn.2.1
  have q6 : (z == 40) = false := ne 40 (by omega) h40
  have hz5 : z < 50 ∨ 57 < z := by
    rw [hz]
    by_cases h1 : 50 ≤ c.toNat
    · by_cases h2 : c.toNat ≤ 57
      · exact absurd ⟨UInt8.le_iff_toNat_le.2 h1, UInt8.le_iff_toNat_le.2 h2⟩ hsn.2.2
      · right; omega
    · left; omega
  clear hget0 hd hs hz ne hkn hsn hX hk h40 hsg
  rcases hz5 with hz5 | hz5
  · have d3 : decide ((50 : Int) ≤ z) = false := decide_eq_false (by omega)
    go_enter Tryd.func21, Tryd.ntmps21
    go_wp2_with fail
    refine bodyPost_ret (v := .tuple #[.agg #[.int .u8 110, .slice (some ⟨w.heap.size + 1, 0, none⟩) 0 0], .int .i64 0]) (by simp [results, Tryd.f21, go_sem]) rfl ?_
    exact ⟨⟨_, _, _, _, 0, rfl, HN.out _ _ _ _⟩, by repeat (first | exact Below.refl _ _ | refine below_alloc ?_ _ | refine bel_set ?_ (by simp only [World.size_setCell, World.size_alloc]; omega) _ _ | refine bel_set ?_ (by omega) _ _ | refine Below.drew ?_)⟩
  · have d3 : decide ((50 : Int) ≤ z) = true := decide_eq_true (by omega)
    have d4 : decide (z ≤ 57) = false := decide_eq_false (by omega)
    go_enter Tryd.func21, Tryd.ntmps21
    go_wp2_with fail
    refine bodyPost_ret (v := .tuple #[.agg #[.int .u8 110, .slice (some ⟨w.heap.size + 1, 0, none⟩) 0 0], .int .i64 0]) (by simp [results, Tryd.f21, go_sem]) rfl ?_
    exact ⟨⟨_, _, _, _, 0, rfl, HN.out _ _ _ _⟩, by repeat (first | exact Below.refl _ _ | refine below_alloc ?_ _ | refine bel_set ?_ (by simp only [World.size_setCell, World.size_alloc]; omega) _ _ | refine bel_set ?_ (by omega) _ _ | refine Below.drew ?_)⟩
set_option maxRecDepth 100000 in
set_option maxHeartbeats 8000000 in
theorem l10Read_j0 (l : List UInt8) (hl : l.length ≤ 60) (f i : Nat) (w : World) (s : List UInt8) (hd : l.drop i = 40 :: s) (ih : ∀ j W, i + 1 ≤ j → RdC f l j W) (hr : rdT f s = none) : RdC (f + 1) l i w := by
  have hsz := bsB_size l
  obtain ⟨hil, hs, hget0⟩ := bsB_at hd
  have d1 : decide ((l.length : Int) ≤ (i : Int)) = false := decide_eq_false (by omega)
  have gi : (i : Int) < (l.length : Int) := by omega
  have hget2 : ∀ h, (((bsB l)[i]'h).toNat : Int) = 40 := fun h => by rw [hget0]; rfl
  have HI := Lib.hid (fun W => ih (i + 1) W (by omega))
  unfold RdC at HI
  rw [← hs, show (((i + 1 : Nat)) : Int) = (i : Int) + 1 from rfl] at HI
  have HC : rdT (f + 1) (40 :: s) = jnT f s := by rw [rdT_cons, show letK 40 = none from rfl]; dsimp only; rw [if_pos rfl]
  unfold jnT at HC
  unfold RdC
  rw [hd]
  clear hget0 hd hs
  rw [hr] at HC HI
  rw [HC, show rdAnd none 43 = none from rfl]
  dsimp only
  have HN := Lib.hid (fun (W : World) s A n => show RdG w.heap.size W l none s A n 0 from rfl)
  clear hr HC ih
  go_enter Tryd.func21, Tryd.ntmps21
  go_wp2_with fail
  refine (HI.out _).mono ?_
  rintro e w2 ⟨⟨s', A', n', c', q, rfl, g2⟩, b2⟩
  have hs2 := b2.size
  simp only [World.size_alloc] at hs2 g2
  obtain ⟨u0, u1, u2, u3⟩ := old_three w (.int .u8 0) (.slice none 0 0) 29 (.cells #[] 29) (.cells #[.int .u8 110, .slice (some ⟨w.heap.size + 1, 0, none⟩) 0 0] 29)
  obtain ⟨u4, u5⟩ := new_two ((w.alloc (.cells #[.int .u8 0, .slice none 0 0] 29)).alloc (.cells #[] 29)) (w.heap.size + 1 + 1) (.int .u8 110) (.slice (some ⟨w.heap.size + 1, 0, none⟩) 0 0) 29 (by simp only [World.size_alloc])
  rw [← b2.cell (by simp only [World.size_alloc]; omega)] at u0 u1 u4 u5
  rw [← b2.frozen (by simp only [World.size_alloc]; omega)] at u2 u3
  have b3 : Below w.heap.size w w2 := Below.trans (show Below w.heap.size w _ by repeat (first | exact Below.refl _ _ | refine below_alloc ?_ _ | refine bel_set ?_ (by simp only [World.size_setCell, World.size_alloc]; omega) _ _ | refine bel_set ?_ (by omega) _ _ | refine Below.drew ?_)) (b2.mono (by simp only [World.size_alloc]; omega))
  clear b2
  have B3 := Lib.hid b3
  have HS2 := Lib.hid hs2
  clear b3
  have k0 : w.heap.size < w2.heap.size := by omega
  have k1 : w.heap.size ≠ w2.heap.size := by omega
  have k3 : w.heap.size + 1 + 1 < w2.heap.size := by omega
  have k4 : w.heap.size + 1 + 1 ≠ w2.heap.size := by omega
  have k5 : w.heap.size ≠ w.heap.size + 1 + 1 := by omega
  obtain rfl : q = 0 := g2
  clear hs2
  go_wp2_with fail
  refine bodyPost_ret (v := .tuple #[.agg #[.int .u8 110, .slice (some ⟨w.heap.size + 1, 0, none⟩) 0 0], .int .i64 0]) (by simp [results, Tryd.f21, go_sem, u0, u1, k0]) rfl ?_
  have b3 := B3.out
  refine ⟨⟨_, _, _, _, 0, rfl, HN.out _ _ _ _⟩, ?_⟩
  repeat (first | exact b3 | refine below_alloc ?_ _ | refine bel_set ?_ (by omega) _ _)
set_option maxRecDepth 100000 in
set_option maxHeartbeats 8000000 in
theorem l10Read_j1 (l : List UInt8) (hl : l.length ≤ 60) (f i : Nat) (w : World) (s : List UInt8) (hd : l.drop i = 40 :: s) (ih : ∀ j W, i + 1 ≤ j → RdC f l j W) (a : Tm) (hr : rdT f s = some (a, [])) : RdC (f + 1) l i w := by
  have hsz := bsB_size l
  obtain ⟨hil, hs, hget0⟩ := bsB_at hd
  have d1 : decide ((l.length : Int) ≤ (i : Int)) = false := decide_eq_false (by omega)
  have gi : (i : Int) < (l.length : Int) := by omega
  have hget2 : ∀ h, (((bsB l)[i]'h).toNat : Int) = 40 := fun h => by rw [hget0]; rfl
  have HI := Lib.hid (fun W => ih (i + 1) W (by omega))
  unfold RdC at HI
  rw [← hs, show (((i + 1 : Nat)) : Int) = (i : Int) + 1 from rfl] at HI
  have HC : rdT (f + 1) (40 :: s) = jnT f s := by rw [rdT_cons, show letK 40 = none from rfl]; dsimp only; rw [if_pos rfl]
  unfold jnT at HC
  unfold RdC
  rw [hd]
  clear hget0 hd hs
  rw [hr] at HC HI
  rw [HC, show rdAnd (some (a, [])) 43 = none from rfl]
  dsimp only
  have HN := Lib.hid (fun (W : World) s A n => show RdG w.heap.size W l none s A n 0 from rfl)
  clear hr HC ih
  go_enter Tryd.func21, Tryd.ntmps21
  go_wp2_with fail
  refine (HI.out _).mono ?_
  rintro e w2 ⟨⟨s', A', n', c', q, rfl, g2⟩, b2⟩
  have hs2 := b2.size
  simp only [World.size_alloc] at hs2 g2
  obtain ⟨u0, u1, u2, u3⟩ := old_three w (.int .u8 0) (.slice none 0 0) 29 (.cells #[] 29) (.cells #[.int .u8 110, .slice (some ⟨w.heap.size + 1, 0, none⟩) 0 0] 29)
  obtain ⟨u4, u5⟩ := new_two ((w.alloc (.cells #[.int .u8 0, .slice none 0 0] 29)).alloc (.cells #[] 29)) (w.heap.size + 1 + 1) (.int .u8 110) (.slice (some ⟨w.heap.size + 1, 0, none⟩) 0 0) 29 (by simp only [World.size_alloc])
  rw [← b2.cell (by simp only [World.size_alloc]; omega)] at u0 u1 u4 u5
  rw [← b2.frozen (by simp only [World.size_alloc]; omega)] at u2 u3
  have b3 : Below w.heap.size w w2 := Below.trans (show Below w.heap.size w _ by repeat (first | exact Below.refl _ _ | refine below_alloc ?_ _ | refine bel_set ?_ (by simp only [World.size_setCell, World.size_alloc]; omega) _ _ | refine bel_set ?_ (by omega) _ _ | refine Below.drew ?_)) (b2.mono (by simp only [World.size_alloc]; omega))
  clear b2
  have B3 := Lib.hid b3
  have HS2 := Lib.hid hs2
  clear b3
  have k0 : w.heap.size < w2.heap.size := by omega
  have k1 : w.heap.size ≠ w2.heap.size := by omega
  have k3 : w.heap.size + 1 + 1 < w2.heap.size := by omega
  have k4 : w.heap.size + 1 + 1 ≠ w2.heap.size := by omega
  have k5 : w.heap.size ≠ w.heap.size + 1 + 1 := by omega
  obtain ⟨g3, g4, g5, -⟩ := g2
  have e1 : ((q : Int) == 0) = false := by simp; omega
  have e2 : decide ((l.length : Int) ≤ (q : Int)) = true := by
    have := congrArg List.length g5
    simp at this
    exact decide_eq_true (by omega)
  have e4 : decide (l.length ≤ q) = true := by simpa using e2
  have e5 : l.length ≤ q := by simpa using e4
  clear hs2 g3 g4 g5
  go_wp2_with fail
  refine bodyPost_ret (v := .tuple #[.agg #[.int .u8 110, .slice (some ⟨w.heap.size + 1, 0, none⟩) 0 0], .int .i64 0]) (by simp [results, Tryd.f21, go_sem, u0, u1, k0]) rfl ?_
  have b3 := B3.out
  refine ⟨⟨_, _, _, _, 0, rfl, HN.out _ _ _ _⟩, ?_⟩
  repeat (first | exact b3 | refine below_alloc ?_ _ | refine bel_set ?_ (by omega) _ _)
set_option maxRecDepth 100000 in
set_option maxHeartbeats 8000000 in
theorem l10Read_j2 (l : List UInt8) (hl : l.length ≤ 60) (f i : Nat) (w : World) (s : List UInt8) (hd : l.drop i = 40 :: s) (ih : ∀ j W, i + 1 ≤ j → RdC f l j W) (a : Tm) (m : UInt8) (r : List UInt8) (hr : rdT f s = some (a, m :: r)) (hm : m ≠ 43) : RdC (f + 1) l i w := by
  have hsz := bsB_size l
  obtain ⟨hil, hs, hget0⟩ := bsB_at hd
  have d1 : decide ((l.length : Int) ≤ (i : Int)) = false := decide_eq_false (by omega)
  have gi : (i : Int) < (l.length : Int) := by omega
  have hget2 : ∀ h, (((bsB l)[i]'h).toNat : Int) = 40 := fun h => by rw [hget0]; rfl
  have HI := Lib.hid (fun W => ih (i + 1) W (by omega))
  unfold RdC at HI
  rw [← hs, show (((i + 1 : Nat)) : Int) = (i : Int) + 1 from rfl] at HI
  have HC : rdT (f + 1) (40 :: s) = jnT f s := by rw [rdT_cons, show letK 40 = none from rfl]; dsimp only; rw [if_pos rfl]
  unfold jnT at HC
  unfold RdC
  rw [hd]
  clear hget0 hd hs
  rw [hr] at HC HI
  rw [HC, show rdAnd (some (a, m :: r)) 43 = none by unfold rdAnd; dsimp only; rw [if_neg hm]]
  dsimp only
  have HN := Lib.hid (fun (W : World) s A n => show RdG w.heap.size W l none s A n 0 from rfl)
  clear hr HC ih
  go_enter Tryd.func21, Tryd.ntmps21
  go_wp2_with fail
  refine (HI.out _).mono ?_
  rintro e w2 ⟨⟨s', A', n', c', q, rfl, g2⟩, b2⟩
  have hs2 := b2.size
  simp only [World.size_alloc] at hs2 g2
  obtain ⟨u0, u1, u2, u3⟩ := old_three w (.int .u8 0) (.slice none 0 0) 29 (.cells #[] 29) (.cells #[.int .u8 110, .slice (some ⟨w.heap.size + 1, 0, none⟩) 0 0] 29)
  obtain ⟨u4, u5⟩ := new_two ((w.alloc (.cells #[.int .u8 0, .slice none 0 0] 29)).alloc (.cells #[] 29)) (w.heap.size + 1 + 1) (.int .u8 110) (.slice (some ⟨w.heap.size + 1, 0, none⟩) 0 0) 29 (by simp only [World.size_alloc])
  rw [← b2.cell (by simp only [World.size_alloc]; omega)] at u0 u1 u4 u5
  rw [← b2.frozen (by simp only [World.size_alloc]; omega)] at u2 u3
  have b3 : Below w.heap.size w w2 := Below.trans (show Below w.heap.size w _ by repeat (first | exact Below.refl _ _ | refine below_alloc ?_ _ | refine bel_set ?_ (by simp only [World.size_setCell, World.size_alloc]; omega) _ _ | refine bel_set ?_ (by omega) _ _ | refine Below.drew ?_)) (b2.mono (by simp only [World.size_alloc]; omega))
  clear b2
  have B3 := Lib.hid b3
  have HS2 := Lib.hid hs2
  clear b3
  have k0 : w.heap.size < w2.heap.size := by omega
  have k1 : w.heap.size ≠ w2.heap.size := by omega
  have k3 : w.heap.size + 1 + 1 < w2.heap.size := by omega
  have k4 : w.heap.size + 1 + 1 ≠ w2.heap.size := by omega
  have k5 : w.heap.size ≠ w.heap.size + 1 + 1 := by omega
  obtain ⟨g3, g4, g5, -⟩ := g2
  obtain ⟨g6, -, g7⟩ := bsB_at g5.symm
  have e1 : ((q : Int) == 0) = false := by simp; omega
  have e2 : decide ((l.length : Int) ≤ (q : Int)) = false := decide_eq_false (by omega)
  have e3 : ((m.toNat : Int) == 43) = false := u8_ne (k := 43) (by omega) hm
  obtain ⟨y, ey⟩ : ∃ y : Int, y = (m.toNat : Int) := ⟨_, rfl⟩
  have hget3 : ∀ h, (((bsB l)[q]'h).toNat : Int) = y := fun h => by rw [g7]; exact ey.symm
  rw [← ey] at e3
  have g8 : (q : Int) < (l.length : Int) := by omega
  have e4 : decide (l.length ≤ q) = false := by simpa using e2
  have e5 : ¬ l.length ≤ q := by simpa using e4
  clear hs2 g3 g4 g5 g7 ey
  go_wp2_with fail
  refine bodyPost_ret (v := .tuple #[.agg #[.int .u8 110, .slice (some ⟨w.heap.size + 1, 0, none⟩) 0 0], .int .i64 0]) (by simp [results, Tryd.f21, go_sem, u0, u1, k0]) rfl ?_
  have b3 := B3.out
  refine ⟨⟨_, _, _, _, 0, rfl, HN.out _ _ _ _⟩, ?_⟩
  repeat (first | exact b3 | refine below_alloc ?_ _ | refine bel_set ?_ (by omega) _ _)
end Go.Proofs.YtegpidlhhneilaaDoor
