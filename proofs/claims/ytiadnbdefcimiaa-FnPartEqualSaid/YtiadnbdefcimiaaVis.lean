/- The program's way through the part lists: visitFrom. -/
import Derived.Test.YtiadnbdefcimiaaTrio
import Derived.Test.YtiadnbdefcimiaaQuiTail
import Derived.StillTailTactics
import Derived.Laws.CopyRow
import Derived.Laws.CopyOwn
namespace Go.Proofs.Ytiadnbdefcimiaa
open Go.RowKit Go.Sort Go.Lib Go.Shelf
attribute [local go_sem] Oper.semAt_some

/-- What the way through the part lists keeps. -/
structure VisI {σ : Type} (w0 : World) (B g0 c0 gr tot bx bt cT n : Nat) (A0 : Option Addr) (Ts : List Tri) (J : σ → World → Prop) (R : List Int) (s : σ) (W : World) : Prop where
  own0 : Own W B (some ⟨g0, 0, none⟩) n c0 (noP n)
  ownR : Own W B (some ⟨gr, 0, none⟩) tot tot R
  trs : OwnQ W B A0 Ts.length cT Ts
  hbt : 0 < Ts.length → A0 = some ⟨bt, 0, none⟩
  st : J s W
  bel : Below B w0 W
  ne : g0 ≠ gr ∧ bx ≠ g0 ∧ bx ≠ gr ∧ (Value.slice A0 Ts.length cT).ownBlock ≠ some bx ∧ (Value.slice A0 Ts.length cT).ownBlock ≠ some gr
  hx : B ≤ bx
theorem own_keep {W W' : World} {B n c g : Nat} {xs : List Int} {row : Option Nat} (h : Own W B (some ⟨g, 0, none⟩) n c xs) (hg : W.grownBy W' row) (hr : row ≠ some g) : Own W' B (some ⟨g, 0, none⟩) n c xs :=
  World.ownsRow.kept h hg (.inr fun e => hr e.symm)
theorem ownQ_keep {W W' : World} {B n c : Nat} {A : Option Addr} {l : List Tri} {row : Option Nat} (h : OwnQ W B A n c l) (hg : W.grownBy W' row) (hr : ∀ k, row = some k → (Value.slice A n c).ownBlock ≠ some k) : OwnQ W' B A n c l := h.off hg hr
section
variable {σ : Type} {w0 : World} {B g0 c0 gr tot bx bt cT n : Nat} {A0 : Option Addr} {Ts : List Tri} {J : σ → World → Prop} {R : List Int} {s s' : σ} {W W' : World}
/-- The visit turns its own block alone. -/
theorem VisI.turn (h : VisI w0 B g0 c0 gr tot bx bt cT n A0 Ts J R s W) (hg : W.grownBy W' (some bx)) (hj : J s' W') : VisI w0 B g0 c0 gr tot bx bt cT n A0 Ts J R s' W' :=
  ⟨own_keep h.own0 hg (fun e => h.ne.2.1 (by injection e)), own_keep h.ownR hg (fun e => h.ne.2.2.1 (by injection e)), ownQ_keep h.trs hg (fun k e => by cases e; exact h.ne.2.2.2.1), h.hbt, hj,
   h.bel.grown hg (Nat.le_trans h.own0.blk.1 (Nat.le_of_lt h.own0.blk.2)) (fun k e => by cases e; exact h.hx), h.ne, h.hx⟩
/-- The room is written in. -/
theorem VisI.room {R' : List Int} (h : VisI w0 B g0 c0 gr tot bx bt cT n A0 Ts J R s W) (hJ : ∀ s W W', J s W → ∀ row, W.grownBy W' row → row = none ∨ row = some gr → J s W') (hg : W.grownBy W' (some gr)) (ho : Own W' B (some ⟨gr, 0, none⟩) tot tot R') : VisI w0 B g0 c0 gr tot bx bt cT n A0 Ts J R' s W' :=
  ⟨own_keep h.own0 hg (fun e => h.ne.1 (by injection e with e; exact e.symm)), ho, ownQ_keep h.trs hg (fun k e => by cases e; exact h.ne.2.2.2.2), h.hbt, hJ s W W' h.st _ hg (.inr rfl),
   h.bel.grown hg (Nat.le_trans h.own0.blk.1 (Nat.le_of_lt h.own0.blk.2)) (fun k e => by cases e; exact h.ownR.blk.1), h.ne, h.hx⟩
/-- New blocks alone. -/
theorem VisI.below (h : VisI w0 B g0 c0 gr tot bx bt cT n A0 Ts J R s W) (hJ : ∀ s W W', J s W → ∀ row, W.grownBy W' row → row = none ∨ row = some gr → J s W') (hb : Below W.heap.size W W') : VisI w0 B g0 c0 gr tot bx bt cT n A0 Ts J R s W' := by
  have hg := grown_of_below hb
  exact ⟨own_keep h.own0 hg (by simp), own_keep h.ownR hg (by simp), ownQ_keep h.trs hg (fun k e => by cases e), h.hbt, hJ s W W' h.st _ hg (.inl rfl), h.bel.trans (hb.mono (Nat.le_trans h.own0.blk.1 (Nat.le_of_lt h.own0.blk.2))), h.ne, h.hx⟩
end

/-- Where a list lies. -/
def LocP (g0 gr n m b off : Nat) (l R : List Int) : Prop := (m = 0 ∧ b = g0 ∧ off = 0 ∧ l = noP n) ∨ (1 ≤ m ∧ b = gr ∧ off = (m - 1) * n ∧ (R.drop ((m - 1) * n)).take n = l)
theorem loc_rd {σ : Type} {w0 : World} {B g0 c0 gr tot bx bt cT n m b off : Nat} {A0 : Option Addr} {Ts : List Tri} {J : σ → World → Prop} {l R : List Int} {s : σ} {W : World} (h : VisI w0 B g0 c0 gr tot bx bt cT n A0 Ts J R s W) (hl : LocP g0 gr n m b off l R) (hm : m * n ≤ tot) :
    Rd W (some ⟨b, off, none⟩) n l := by
  rcases hl with ⟨rfl, rfl, rfl, rfl⟩ | ⟨h1, rfl, rfl, rfl⟩
  · exact h.own0.rd
  · have hmn : (m - 1) * n + n = m * n := by rw [← Nat.succ_mul]; congr 1; omega
    have := (h.ownR.rd.drop (k := (m - 1) * n) (by omega)).take (k := n) (by omega)
    rwa [Nat.zero_add] at this
theorem loc_keep {g0 gr n m b off : Nat} {l R R' : List Int} (hl : LocP g0 gr n m b off l R) (hR : R'.take (m * n) = R.take (m * n)) : LocP g0 gr n m b off l R' := by
  rcases hl with h | ⟨h1, h2, h3, h4⟩
  · exact .inl h
  · refine .inr ⟨h1, h2, h3, ?_⟩
    have hmn : (m - 1) * n + n = m * n := by rw [← Nat.succ_mul]; congr 1; omega
    have key : ∀ L : List Int, (L.drop ((m - 1) * n)).take n = (L.take (m * n)).drop ((m - 1) * n) := fun L => by
      rw [List.drop_take, ← hmn, Nat.add_sub_cancel_left]
    rw [key, hR, ← key]; exact h4

/-- A part of a room is written over. -/
def splR (R : List Int) (o : Nat) (l : List Int) : List Int := R.take o ++ (l ++ R.drop (o + l.length))
theorem splR_len {R l : List Int} {o : Nat} (h : o + l.length ≤ R.length) : (splR R o l).length = R.length := by simp [splR]; omega
theorem splR_take {R l : List Int} {o : Nat} (h : o + l.length ≤ R.length) : (splR R o l).take o = R.take o := by
  unfold splR
  rw [List.take_append_of_le_length (by simp; omega), List.take_take, Nat.min_self]
theorem splR_at {R l : List Int} {o : Nat} (h : o + l.length ≤ R.length) : ((splR R o l).drop o).take l.length = l := by
  have e : (R.take o).length = o := by simp; omega
  have h1 : (splR R o l).drop o = l ++ R.drop (o + l.length) := by
    unfold splR
    rw [List.drop_append_of_le_length (by omega), List.drop_eq_nil_of_le (by omega), List.nil_append]
  rw [h1, List.take_left]
theorem splR_set {R l : List Int} {o x : Nat} {v : Int} (h : o + l.length ≤ R.length) (hx : x < l.length) : (splR R o l).set (o + x) v = splR R o (l.set x v) := by
  have e : (R.take o).length = o := by simp; omega
  unfold splR
  rw [List.set_append_right _ _ (by omega), e, Nat.add_sub_cancel_left, List.set_append_left _ _ hx, List.length_set]
theorem own_cells {w : World} {B g n : Nat} {xs : List Int} (h : Own w B (some ⟨g, 0, none⟩) n n xs) : w.heap[g]? = some (.cells (ints xs).toArray 3 (0, 0)) := by
  rcases h.2 with ⟨e, _⟩ | ⟨g', cap, cur, e, _, hh, _, _, h3, h4⟩
  · cases e
  · simp only [Value.slice.injEq, Option.some.injEq, Addr.mk.injEq, and_true, true_and] at e
    obtain ⟨rfl, rfl⟩ := e
    rw [hh]
    rw [Nat.mul_one] at h3 h4
    have : cur.toList = ints xs := by rw [← h4, List.take_of_length_le]; simp [h3]
    rw [← this]
theorem own_of_cells {w : World} {B g n : Nat} {xs : List Int} (hB : B ≤ g) (hn : n ≤ 1000000) (hl : xs.length = n) (h : w.heap[g]? = some (.cells (ints xs).toArray 3 (0, 0))) : Own w B (some ⟨g, 0, none⟩) n n xs :=
  ⟨by simp [hl], .inr ⟨g, n, _, rfl, hB, h, Nat.le_refl _, by unfold maxLen; omega, by simp [hl], by rw [Nat.mul_one, List.take_of_length_le (by simp [hl])]⟩⟩
theorem setRow_grown (w : World) (g : Nat) (cs : Array Value) : w.grownBy (w.setRow g cs) (some g) :=
  ⟨rfl, rfl, rfl, by simp [World.setRow], fun k _ hk => setRow_other w g k cs (fun e => hk (by rw [e]))⟩
/-- One of the places of a three. -/
def plT (t : Tri) (q : Nat) : Nat := if q = 0 then t.1 else if q = 1 then t.2.1 else t.2.2
theorem intSz : (Try.prog.info? 3).map (·.size) = some 1 := by kernel_rfl
theorem plT0 (t : Tri) : plT t 0 = t.1 := rfl
theorem plT1 (t : Tri) : plT t 1 = t.2.1 := rfl
theorem plT2 (t : Tri) : plT t 2 = t.2.2 := rfl
theorem copy_room {W : World} {B gr tot b off n c o : Nat} {R l : List Int} (h : Own W B (some ⟨gr, 0, none⟩) tot tot R) (hr : Rd W (some ⟨b, off, none⟩) n l) (h1 : 1 ≤ n) (ho : o + n ≤ tot) (ht : tot ≤ 1000000) :
    ∃ W', (Builtin.copy_ #[42, 42] 3 #[.slice (some ⟨gr, o, none⟩) n n, .slice (some ⟨b, off, none⟩) n c]).run Try.prog W = .ok (.int .i64 n) W' ∧ Own W' B (some ⟨gr, 0, none⟩) tot tot (splR R o l) ∧ W.grownBy W' (some gr) := by
  have hc := own_cells h
  have hR := h.len
  obtain ⟨b', off', e, _, hcell⟩ := hr.2 (by omega)
  simp only [Option.some.injEq, Addr.mk.injEq, and_true] at e
  obtain ⟨rfl, rfl⟩ := e
  have hrun := run_copy_row (P := Try.prog) W 42 42 3 3 gr o n n ⟨b, off, none⟩ n c (ints R).toArray 3 (ints l) Try.underlying42 intSz hc (by simp [hr.1]) (Rd.cells hr.1 hcell) (by simp [hr.1, hR]; omega) (by intro v hv; simp at hv; obtain ⟨x, _, rfl⟩ := hv; rfl)
  have hll : (ints l).length = n := by simp [hr.1]
  rw [hll] at hrun
  refine ⟨W.setRow gr _, hrun, own_of_cells h.blk.1 ht (by rw [splR_len (by rw [hr.1, hR]; exact ho), hR]) ?_, setRow_grown W gr _⟩
  rw [setRow_heap W gr _ _ _ _ hc]
  have e : (ints R).toArray.toList.take o ++ ints l ++ (ints R).toArray.toList.drop (o + n) = ints (splR R o l) := by
    unfold splR
    rw [hr.1]
    show (ints R).take o ++ ints l ++ (ints R).drop (o + n) = _
    rw [← ints_app, ← ints_app, List.append_assoc]
    unfold ints
    rw [List.map_take, List.map_drop]
  first | rw [e] | (rw [← List.append_assoc, e])
theorem pv_drop {Q : Tri → Bool} {n m : Nat} {l : List Int} {T : List Tri} (h : PV Q n l m T) (k : Nat) : PV Q n l m (T.drop k) :=
  ⟨h.pl, h.srt.sublist (List.drop_sublist k T), fun t ht => h.inT t (List.mem_of_mem_drop ht), fun t ht => h.beh t (List.mem_of_mem_drop ht)⟩
def putQ (l : List Int) (t : Tri) (m : Nat) : Nat → List Int
  | 0 => l
  | 1 => l.set t.1 m
  | 2 => (l.set t.1 m).set t.2.1 m
  | _ => putT l t m
theorem putQ_len (l : List Int) (t : Tri) (m q : Nat) : (putQ l t m q).length = l.length := by
  match q with
  | 0 => rfl
  | 1 => simp [putQ]
  | 2 => simp [putQ]
  | _ + 3 => simp [putQ, putT]
theorem putQ_step (l : List Int) (t : Tri) (m : Nat) {q : Nat} (h : q < 3) : (putQ l t m q).set (plT t q) m = putQ l t m (q + 1) := by
  match q, h with
  | 0, _ => rfl
  | 1, _ => rfl
  | 2, _ => rfl

theorem ix_trio0 (x y z : Int) (w : World) : (Instr.index 68 (.agg #[.int .i64 x, .int .i64 y, .int .i64 z]) (.int .i64 0)).run Try.prog w = .ok (.int .i64 x) w := by kernel_rfl
theorem ix_trio1 (x y z : Int) (w : World) : (Instr.index 68 (.agg #[.int .i64 x, .int .i64 y, .int .i64 z]) (.int .i64 1)).run Try.prog w = .ok (.int .i64 y) w := by kernel_rfl
theorem ix_trio2 (x y z : Int) (w : World) : (Instr.index 68 (.agg #[.int .i64 x, .int .i64 y, .int .i64 z]) (.int .i64 2)).run Try.prog w = .ok (.int .i64 z) w := by kernel_rfl

set_option maxRecDepth 100000 in
set_option maxHeartbeats 8000000 in
theorem visitFrom_any {σ : Type} (w0 : World) (B g0 c0 gr tot bx bt cT n : Nat) (A0 : Option Addr) (Ts : List Tri) (J : σ → World → Prop) (acc : σ → List Int → σ) (Q : Tri → Bool) (fid : FuncId) (caps : Array Value) (hn1 : 1 ≤ n) (hn9 : n ≤ 9) (htot : tot = n * (n / 3)) (hNT : Ts.length ≤ 1000) (hcT : Ts.length ≤ cT) (_ : cT ≤ 9223372036854775807)
    (hJ : ∀ s W W', J s W → ∀ row, W.grownBy W' row → row = none ∨ row = some gr → J s W')
    (hv : ∀ l s W b off c, (∃ m, PL Q n l m) → Rd W (some ⟨b, off, none⟩) n l → J s W → Calls Try.prog fid (#[.slice (some ⟨b, off, none⟩) n c] ++ caps) W fun e w' => e = .returned (.tuple #[]) ∧ J (acc s l) w' ∧ W.grownBy w' (some bx))
    (he : ∀ args w, (callFunc fid args).run Try.prog w = .ok (.enter fid args) w) :
    ∀ (N kT : Nat), Ts.length - kT < N → kT ≤ Ts.length → ∀ (m : Nat) (l R : List Int) (s : σ) (W : World) (b off c : Nat) (AT AR : Option Addr),
      PV Q n l m (Ts.drop kT) → LocP g0 gr n m b off l R → (kT < Ts.length → AT = some ⟨bt, kT * 3, none⟩) → (m * n < tot → AR = some ⟨gr, m * n, none⟩) →
      VisI w0 B g0 c0 gr tot bx bt cT n A0 Ts J R s W →
      Calls Try.prog 83 #[.slice (some ⟨b, off, none⟩) n c, .int .i64 m, .slice AT (Ts.length - kT : Nat) (cT - kT), .slice AR (tot - m * n : Nat) (tot - m * n), .func (.func fid) #[] caps] W fun e w' => e = .returned (.tuple #[]) ∧ ∃ R', VisI w0 B g0 c0 gr tot bx bt cT n A0 Ts J R' ((visP m l (Ts.drop kT)).foldl acc s) w' ∧ R'.take (m * n) = R.take (m * n) := by
  intro N
  induction N with
  | zero => intro kT h; omega
  | succ N ih =>
    intro kT hN hkT m l R s W b off c AT AR hPV hLo hAT hAR hI
    have hle := hPV.pl.le
    have hmt : m * n ≤ tot := by
      rw [htot, Nat.mul_comm]; exact Nat.mul_le_mul_left _ (by omega)
    have hV := hv l s W b off c ⟨m, hPV.pl⟩ (loc_rd hI hLo hmt) hI.st
    have HTOT := Lib.hid htot
    clear htot
    have HV := Lib.hid hV
    have HI := Lib.hid hI
    have IH := Lib.hid ih
    have HPV := Lib.hid hPV
    have HLo := Lib.hid hLo
    have HJ := Lib.hid hJ
    clear hV hI ih hPV hLo hJ hv
    have hF : (visT m l (Ts.drop kT)).foldl acc (acc s l) = (visP m l (Ts.drop kT)).foldl acc s := by unfold visP; rw [List.foldl_cons]
    obtain ⟨Fs, eF⟩ : ∃ Fs, Fs = (visP m l (Ts.drop kT)).foldl acc s := ⟨_, rfl⟩
    rw [← eF] at hF ⊢
    have HF := Lib.hid hF
    obtain ⟨cA, hcA⟩ : ∃ cA, cA = cT - kT := ⟨_, rfl⟩
    obtain ⟨lR, hlR⟩ : ∃ lR, lR = tot - m * n := ⟨_, rfl⟩
    rw [← hcA, ← hlR]
    have HcA := Lib.hid hcA
    have HlR := Lib.hid hlR
    clear hF eF hcA hlR
    go_enter Try.func83, Try.ntmps83
    go_wp2_with fail
    refine wp_scope_straight ?_
    go_wp2_with fail
    refine HV.out.mono ?_
    rintro e w2 ⟨rfl, hj2, hg2⟩
    have hI2 := HI.out.turn hg2 hj2
    have HI2 := Lib.hid hI2
    clear HV HI hI2 hj2 hg2
    go_wp2_with fail
    refine wp_label ?_
    go_wp2_with fail
    go_loopw [11, 12, 14, 15, 17, 25, 30, 31, 47, 48] (fun _ _ _ _ _ i _ _ _ _ wr => ∃ (k : Nat) (R' : List Int) (s' : σ), kT + k ≤ Ts.length ∧ i = .int .i64 k ∧ VisI w0 B g0 c0 gr tot bx bt cT n A0 Ts J R' s' wr ∧ R'.take (m * n) = R.take (m * n) ∧ (visT m l (Ts.drop (kT + k))).foldl acc s' = Fs) (fun _ _ _ _ _ i _ _ _ _ _ => Ts.length - kT - (intOf i).toNat)
    case atStart => exact ⟨0, R, acc s l, by omega, rfl, HI2.out, rfl, HF.out⟩
    case round =>
      clear HI2 HF
      obtain ⟨k, R1, s1, hk, rfl, hI, hR, hFs⟩ := hrel
      obtain ⟨wo, rfl⟩ : ∃ wo : World, wo = wr := ⟨_, rfl⟩
      have HI := Lib.hid hI
      have HR := Lib.hid hR
      have HFs := Lib.hid hFs
      by_cases hlt : kT + k < Ts.length
      · obtain ⟨t, et⟩ : ∃ t, t = triAt Ts (kT + k) := ⟨_, rfl⟩
        have hdr : Ts.drop (kT + k) = t :: Ts.drop (kT + k + 1) := by rw [et, triAt_lt hlt]; exact List.drop_eq_getElem_cons hlt
        obtain ⟨b', off', e1, _, hc⟩ := hI.trs.rd.2 (by omega)
        rw [hI.hbt (by omega)] at e1
        simp only [Option.some.injEq, Addr.mk.injEq, and_true] at e1
        obtain ⟨rfl, rfl⟩ := e1
        obtain ⟨q0, q1, q2⟩ := hc (kT + k) hlt
        rw [← et] at q0 q1 q2
        rw [Nat.zero_add, Nat.add_mul] at q0 q1 q2
        obtain rfl := hAT (by omega)
        have d1 : decide ((k : Int) < ((Ts.length - kT : Nat) : Int)) = true := by simp; omega
        have HDR := Lib.hid hdr
        obtain ⟨i1, i2, i3, iQ⟩ := HPV.out.inT t (by
          have : t ∈ Ts.drop (kT + k) := by rw [hdr]; simp
          rw [← List.drop_drop] at this
          exact List.mem_of_mem_drop this)
        have hlr := loc_keep HLo.out hR
        clear hdr et hc hI hR hFs
        go_wp2_with fail
        generalize hW1 : wo.alloc (.cells #[.int .i64 t.1, .int .i64 t.2.1, .int .i64 t.2.2] 68) = W1
        have hbW : Below wo.heap.size wo W1 := by rw [← hW1]; exact below_alloc (Below.refl _ _) _
        have hnew : W1.heap[wo.heap.size]? = some (.cells #[.int .i64 t.1, .int .i64 t.2.1, .int .i64 t.2.2] 68 (0, 0)) := by rw [← hW1]; exact World.alloc_heap_new wo _
        have hI1 := HI.out.below HJ.out hbW
        have hrd := loc_rd hI1 hlr hmt
        obtain ⟨b', off', e1, _, hlc⟩ := hrd.2 (by omega)
        simp only [Option.some.injEq, Addr.mk.injEq, and_true] at e1
        obtain ⟨rfl, rfl⟩ := e1
        have HI1 := Lib.hid hI1
        have HRD := Lib.hid hrd
        have HLC := Lib.hid hlc
        have HNW := Lib.hid hnew
        clear hW1 hbW hnew hI1 hrd hlc q0 q1 q2
        have ix0 := ix_trio0 t.1 t.2.1 t.2.2
        have ix1 := ix_trio1 t.1 t.2.1 t.2.2
        have ix2 := ix_trio2 t.1 t.2.1 t.2.2
        go_loopw [14, 31] (fun _ j wq => ∃ q : Nat, q ≤ 3 ∧ j = .int .i64 q ∧ (∀ p, p < q → l.getD (plT t p) 0 = -1) ∧ wq = W1) (fun _ j _ => 3 - (intOf j).toNat)
        case atStart => exact ⟨0, by omega, rfl, fun p hp => absurd hp (by omega), rfl⟩
        case round =>
          obtain ⟨q, hq, rfl, hfree, rfl⟩ := hrel
          have HFR := Lib.hid hfree
          clear hfree
          by_cases hq3 : q < 3
          · have hpl : plT t q < n := by unfold plT; split <;> (try split) <;> omega
            have y0 := HLC.out (plT t q) hpl
            have HFS := Lib.hid (fun h : l.getD (plT t q) 0 = -1 => (fun p (hp : p < q + 1) => (by
              by_cases e : p = q
              · rw [e]; exact h
              · exact HFR.out p (by omega) : l.getD (plT t p) 0 = -1)))
            have HNO := Lib.hid (fun h : l.getD (plT t q) 0 ≠ -1 => (show okT l t = false by
              unfold okT
              have : q = 0 ∨ q = 1 ∨ q = 2 := by omega
              rcases this with rfl | rfl | rfl
              · rw [show (l.getD t.1 0 == -1) = false from beq_eq_false_iff_ne.2 h]; rfl
              · rw [show (l.getD t.2.1 0 == -1) = false from beq_eq_false_iff_ne.2 h, Bool.and_false]; rfl
              · rw [show (l.getD t.2.2 0 == -1) = false from beq_eq_false_iff_ne.2 h, Bool.and_false]))
            generalize l.getD (plT t q) 0 = x at *
            have hpl' : ((plT t q : Nat) : Int) < (n : Int) := by omega
            have hq012 : q = 0 ∨ q = 1 ∨ q = 2 := by omega
            by_cases hx : x = -1
            · subst hx
              have HF3 := Lib.hid (HFS.out rfl)
              clear HFS HNO
              rcases hq012 with rfl | rfl | rfl
              all_goals
                simp only [plT0, plT1, plT2] at y0 hpl hpl'
                go_wp2_with fail
                go_roundw
                case rel => first | exact ⟨1, by omega, by first | rfl | simp | go_num, HF3.out, by trivial⟩ | exact ⟨2, by omega, by first | rfl | simp | go_num, HF3.out, by trivial⟩ | exact ⟨3, by omega, by first | rfl | simp | go_num, HF3.out, by trivial⟩
                case measure => simp [intOf]
            · have HOK := Lib.hid (HNO.out hx)
              have hFn : (visT m l (Ts.drop (kT + (k + 1)))).foldl acc s1 = Fs := by
                rw [← Nat.add_assoc]
                have := HFs.out
                rw [HDR.out, visT, if_neg (by rw [HOK.out]; exact Bool.false_ne_true), List.nil_append] at this
                exact this
              have HFn := Lib.hid hFn
              clear HFS HNO hFn
              rcases hq012 with rfl | rfl | rfl
              all_goals
                simp only [plT0, plT1, plT2] at y0 hpl hpl'
                go_wp2_with fail
                go_roundw
                case rel => first | exact ⟨k + 1, R1, s1, by omega, by go_num, HI1.out, HR.out, HFn.out⟩ | ((repeat apply Exists.intro); exact ⟨⟨k + 1, R1, s1, by omega, by go_num, HI1.out, HR.out, HFn.out⟩, rfl⟩)
                case measure => simp [intOf]; omega
          · obtain rfl : q = 3 := by omega
            have hok : okT l t = true := okT_mk (HFR.out 0 (by omega)) (HFR.out 1 (by omega)) (HFR.out 2 (by omega))
            have hpv := pv_drop HPV.out k
            rw [List.drop_drop, HDR.out] at hpv
            have hpt := hpv.put hok
            have h3m := hpt.pl.le
            have hroom : m * n + n ≤ tot := by
              rw [HTOT.out, ← Nat.succ_mul, Nat.mul_comm n]; exact Nat.mul_le_mul_right _ (by omega)
            have htot9 : tot ≤ 1000 := by
              rw [HTOT.out]; exact Nat.le_trans (Nat.mul_le_mul hn9 (show n / 3 ≤ 3 by omega)) (by decide)
            obtain rfl := hAR (by omega)
            obtain ⟨W2, hcp, ho2, hg2⟩ := copy_room (o := m * n) (c := c) HI1.out.ownR HRD.out hn1 hroom (by omega)
            have HI2 := Lib.hid (HI1.out.room HJ.out hg2 ho2)
            have HNW2 := Lib.hid ((hg2.block _ (Array.getElem?_eq_some_iff.1 HNW.out).1 (by
              intro e
              have h1 := own_cells HI1.out.ownR
              injection e with e
              rw [← e, HNW.out] at h1
              simp only [Option.some.injEq, Obj.cells.injEq] at h1
              exact absurd h1.2.1 (by decide))).trans HNW.out)
            have HPT := Lib.hid hpt
            have HOK := Lib.hid hok
            have e1 : (n : Int) ≤ (lR : Int) := by have := HlR.out; omega
            have e2 : n ≤ lR := by have := HlR.out; omega
            have z0 : W2.cell? ⟨wo.heap.size, 0, none⟩ = some (.int .i64 t.1) := by rw [cell_of_row W2 _ 0 _ _ _ HNW2.out]; rfl
            have z1 : W2.cell? ⟨wo.heap.size, 1, none⟩ = some (.int .i64 t.2.1) := by rw [cell_of_row W2 _ 1 _ _ _ HNW2.out]; rfl
            have z2 : W2.cell? ⟨wo.heap.size, 2, none⟩ = some (.int .i64 t.2.2) := by rw [cell_of_row W2 _ 2 _ _ _ HNW2.out]; rfl
            clear hok hpv hpt hg2 ho2
            have hll : l.length = n := HPV.out.pl.len
            have HLL := Lib.hid hll
            clear hll
            go_wp2_with fail
            go_loopw [17, 48] (fun _ j wq => ∃ q : Nat, q ≤ 3 ∧ j = .int .i64 q ∧ VisI w0 B g0 c0 gr tot bx bt cT n A0 Ts J (splR R1 (m * n) (putQ l t m q)) s1 wq) (fun _ j _ => 3 - (intOf j).toNat)
            case atStart => exact ⟨0, by omega, rfl, HI2.out⟩
            case round =>
              clear z0 z1 z2 HI2 HNW2 hcp
              obtain ⟨q, hq, rfl, hIq⟩ := hrel
              have HIq := Lib.hid hIq
              by_cases hq3 : q < 3
              · have hpl : plT t q < n := by unfold plT; split <;> (try split) <;> omega
                obtain ⟨y, hy⟩ : ∃ y, y = (splR R1 (m * n) (putQ l t m q)).getD (m * n + plT t q) 0 := ⟨_, rfl⟩
                have y0 := hIq.ownR.cell (m * n + plT t q) (by omega)
                have y1 := hIq.ownR.free (m * n + plT t q)
                rw [← hy] at y0
                have hst := hIq.ownR.stored (m * n + plT t q) (m : Int)
                have hRl : R1.length = tot := HI.out.ownR.len
                rw [splR_set (by rw [putQ_len, HLL.out, hRl]; exact hroom) (by rw [putQ_len, HLL.out]; exact hpl), putQ_step l t m hq3] at hst
                have HIn := Lib.hid (hIq.room HJ.out hst.2 hst.1)
                have hpl' : ((plT t q : Nat) : Int) < (n : Int) := by omega
                have hq012 : q = 0 ∨ q = 1 ∨ q = 2 := by omega
                clear hIq hst hy hRl
                rcases hq012 with rfl | rfl | rfl
                all_goals
                  simp only [plT0, plT1, plT2] at y0 y1 hpl hpl' HIn
                  go_wp2_with fail
                  go_roundw
                  case rel => first | exact ⟨1, by omega, by first | rfl | simp | go_num, HIn.out⟩ | exact ⟨2, by omega, by first | rfl | simp | go_num, HIn.out⟩ | exact ⟨3, by omega, by first | rfl | simp | go_num, HIn.out⟩
                  case measure => simp [intOf]
              · obtain rfl : q = 3 := by omega
                clear hIq
                obtain ⟨m1, hm1⟩ : ∃ m1, m1 = m + 1 := ⟨_, rfl⟩
                obtain ⟨k1, hk1⟩ : ∃ k1, k1 = k + 1 := ⟨_, rfl⟩
                have HM1 := Lib.hid hm1
                have HK1 := Lib.hid hk1
                have v1 : IntKind.i64.wrap ((m : Int) + 1) = (m1 : Int) := wrap_is (by omega) (by omega) (by omega)
                have v2 : IntKind.i64.wrap ((k : Int) + 1) = (k1 : Int) := wrap_is (by omega) (by omega) (by omega)
                have g1 : (0 : Int) ≤ (k1 : Int) := by omega
                have g2 : (k1 : Int) ≤ ((Ts.length - kT : Nat) : Int) := by omega
                have g3 : ((Ts.length - kT : Nat) : Int) ≤ (cA : Int) := by have := HcA.out; omega
                have g4 : (0 : Int) ≤ (n : Int) := by omega
                have hmul : m1 * n = m * n + n := by rw [hm1, Nat.succ_mul]
                have hRl : R1.length = tot := HI.out.ownR.len
                have hIn := HIq.out.below HJ.out ((Below.refl wr.heap.size wr).drew)
                have hQ3 : putQ l t m 3 = putT l t m := rfl
                rw [hQ3] at hIn
                have hpl : (putT l t m).length = n := by rw [put_len]; exact HLL.out
                have hloc : LocP g0 gr n m1 gr (m * n) (putT l t m) (splR R1 (m * n) (putT l t m)) := by
                  refine .inr ⟨by omega, rfl, by rw [hm1, Nat.add_sub_cancel], ?_⟩
                  rw [hm1, Nat.add_sub_cancel]
                  have := splR_at (R := R1) (l := putT l t m) (o := m * n) (by rw [hpl, hRl]; exact hroom)
                  rwa [hpl] at this
                have hpt2 := HPT.out
                rw [← hm1] at hpt2
                rw [Nat.add_assoc, ← hk1] at hpt2
                have HC := Lib.hid (fun (AT' AR' : Option Addr) (lT cT' lR : Nat) (e1 : lT = Ts.length - (kT + k1)) (e2 : cT' = cT - (kT + k1)) (e3 : lR = tot - m1 * n) (hA : kT + k1 < Ts.length → AT' = some ⟨bt, (kT + k1) * 3, none⟩) (hR : m1 * n < tot → AR' = some ⟨gr, m1 * n, none⟩) =>
                  (by subst e1 e2 e3; exact IH.out (kT + k1) (by omega) (by omega) m1 (putT l t m) (splR R1 (m * n) (putT l t m)) s1 wr.drew gr (m * n) n AT' AR' hpt2 hloc hA hR hIn :
                    Calls Try.prog 83 #[.slice (some ⟨gr, m * n, none⟩) n n, .int .i64 m1, .slice AT' lT cT', .slice AR' lR lR, .func (.func fid) #[] caps] wr.drew fun e w' => e = .returned (.tuple #[]) ∧ ∃ R', VisI w0 B g0 c0 gr tot bx bt cT n A0 Ts J R' ((visP m1 (putT l t m) (Ts.drop (kT + k1))).foldl acc s1) w' ∧ R'.take (m1 * n) = (splR R1 (m * n) (putT l t m)).take (m1 * n)))
                have HEnd := Lib.hid (fun (R' : List Int) (h : R'.take (m1 * n) = (splR R1 (m * n) (putT l t m)).take (m1 * n)) => (by
                  have h2 := congrArg (List.take (m * n)) h
                  rw [List.take_take, List.take_take, Nat.min_eq_left (by omega), splR_take (by rw [hpl, hRl]; exact hroom), HR.out] at h2
                  exact h2 : R'.take (m * n) = R.take (m * n)))
                have HFn := Lib.hid (by
                  have := HFs.out
                  rw [HDR.out, visT, if_pos HOK.out, List.foldl_append, Nat.add_assoc, ← hk1, ← hm1] at this
                  exact this : (visT m l (Ts.drop (kT + k1))).foldl acc ((visP m1 (putT l t m) (Ts.drop (kT + k1))).foldl acc s1) = Fs)
                clear hk1 hm1 hRl hIn hQ3 hpl hloc hpt2
                go_wp2_with fail
                go_still_tail 11, (by kernel_rfl)
                change wpList _ _ _ _ _ wr.drew
                go_wp2_with fail
                all_goals
                  (try (have hh : cA = k1 := by assumption
                        subst hh))
                  (try (have hh : lR = n := by assumption
                        subst hh))
                  have q1 := HcA.out
                  have q2 := HlR.out
                  have q3 := HK1.out
                  refine (HC.out _ _ _ _ _ (by omega) (by omega) (by omega) (fun h => by first | (exfalso; omega) | (congr 2; omega)) (fun h => by first | (exfalso; omega) | (congr 2; omega))).mono ?_
                  clear q1 q2 q3
                  rintro e w5 ⟨rfl, R5, h5, hR5⟩
                  have H5 := Lib.hid (And.intro h5 (HEnd.out _ hR5))
                  clear h5 hR5
                  go_wp2_with fail
                  go_roundw
                  case rel => first | exact ⟨_, R5, _, by (have := HcA.out; have := HK1.out; omega), rfl, H5.out.1, H5.out.2, HFn.out⟩ | ((repeat apply Exists.intro); exact ⟨⟨_, R5, _, by (have := HcA.out; have := HK1.out; omega), rfl, H5.out.1, H5.out.2, HFn.out⟩, rfl⟩)
                  case measure => (have := HK1.out; simp [intOf]; omega)
      · obtain rfl : k = Ts.length - kT := by omega
        have HFin := Lib.hid (show s1 = Fs by
          have := HFs.out
          rw [List.drop_eq_nil_of_le (by omega)] at this
          exact this)
        clear hI hR hFs
        go_wp2_with fail
        unfold Exit.noGoto
        go_end0
        exact ⟨rfl, R1, by rw [← HFin.out]; exact HI.out, HR.out⟩
end Go.Proofs.Ytiadnbdefcimiaa
