/- l3Lists, PolyCount, PolyFirst of the model. -/
import Derived.Test.YtliplbifgldjeaaLst
namespace Go.Proofs.Ytliplbifgldjeaa
open Go.RowKit

theorem mul_box {l n : Int} {k : Nat} (h1 : 1 ≤ l) (h2 : l + k ≤ 62) (h3 : 0 ≤ n) (h4 : n ≤ 6) : 0 ≤ (l + k) * n ∧ (l + k) * n ≤ 372 := by
  constructor
  · exact Int.mul_nonneg (by omega) h3
  · have := Int.mul_le_mul h2 h4 h3 (by omega)
    omega
theorem mul_rel {l n p : Int} {X s P k : Nat} (hl : l = X) (hn : n = ((s + 1 : Nat) : Int)) (hp : p = P) : (l + k) * n ≤ p ↔ k < P / (s + 1) + 1 - X := by
  have e : (l + k) * n = (((X + k) * (s + 1) : Nat) : Int) := by subst hl hn; simp
  rw [e, hp, Int.ofNat_le, ← Nat.le_div_iff_mul_le (show 0 < s + 1 by omega)]
  omega
theorem lst_bd : ∀ s p x, p ≤ 30 → (lst s p x).length ≤ 32 ^ s
  | 0, p, x, _ => by rw [lst]; split <;> simp
  | s + 1, p, x, hp => by
    rw [lst_succ]
    have key : ∀ k, (lstTo s p x k).length ≤ k * 32 ^ s := by
      intro k
      induction k with
      | zero => simp [lstTo_zero]
      | succ k ih =>
        rw [lstTo_succ, List.length_append, List.length_map, Nat.succ_mul]
        have := lst_bd s (p - (x + k)) (x + k) (by omega)
        omega
    have h1 := key (p / (s + 1) + 1 - x)
    have h2 : p / (s + 1) ≤ p := Nat.div_le_self _ _
    have h3 := Nat.mul_le_mul_right (32 ^ s) (show p / (s + 1) + 1 - x ≤ 32 by omega)
    rw [Nat.pow_succ, Nat.mul_comm (32 ^ s)]
    omega
theorem lstTo_bd (s p x k : Nat) (hp : p ≤ 30) : (lstTo s p x k).length ≤ k * 32 ^ s := by
  induction k with
  | zero => simp [lstTo_zero]
  | succ k ih =>
    rw [lstTo_succ, List.length_append, List.length_map, Nat.succ_mul]
    have := lst_bd s (p - (x + k)) (x + k) (by omega)
    omega
theorem pow_six {s : Nat} (h : s ≤ 5) : 32 ^ s ≤ 33554432 := Nat.le_trans (Nat.pow_le_pow_right (by omega) h) (by decide)

/-- The list built so far. -/
def AllL (w : World) (L : List (List Int)) (v : Value) (wr : World) : Prop :=
  ∃ A c vs, v = .slice A L.length c ∧ OwnL wr w.heap.size A L.length c vs L ∧ Below w.heap.size w wr
/-- The list built so far, beside the rows that go into it. -/
def InL (w : World) (Ar : Option Addr) (nr cr : Nat) (vr : List Value) (R L : List (List Int)) (v : Value) (wr : World) : Prop :=
  ∃ A c vs, v = .slice A L.length c ∧ OwnL wr w.heap.size A L.length c vs L ∧ Below w.heap.size w wr ∧ OwnL wr w.heap.size Ar nr cr vr R ∧ ∀ g, (Value.slice Ar nr cr).ownBlock = some g → (Value.slice A L.length c).ownBlock ≠ some g
theorem ownBlock_lt {w : World} {B n c : Nat} {A : Option Addr} {vs : List Value} {L : List (List Int)} (h : OwnL w B A n c vs L) : ∀ k, (Value.slice A n c).ownBlock = some k → B ≤ k ∧ k < w.heap.size := fun k e => h.row.lt k e
theorem AllL.call {w wr w' : World} {L R : List (List Int)} {v : Value} {Ar : Option Addr} {nr cr : Nat} {vr : List Value} (h : AllL w L v wr) (hr : OwnL w' wr.heap.size Ar nr cr vr R) (hb : Below wr.heap.size wr w') : InL w Ar nr cr vr R L v w' := by
  obtain ⟨A, c, vs, h1, h2, h3⟩ := h
  refine ⟨A, c, vs, h1, h2.same hb, below_then h3 hb, hr.lower h3.size, fun g e e' => ?_⟩
  have q1 := ownBlock_lt hr g e
  have q2 := ownBlock_lt h2 g e'
  omega
theorem InL.all {w wr : World} {L R : List (List Int)} {v : Value} {Ar : Option Addr} {nr cr : Nat} {vr : List Value} (h : InL w Ar nr cr vr R L v wr) : AllL w L v wr := by
  obtain ⟨A, c, vs, h1, h2, h3, _⟩ := h
  exact ⟨A, c, vs, h1, h2, h3⟩
/-- One row more. -/
theorem InL.push {w W W' : World} {L R M : List (List Int)} {Ar A A' : Option Addr} {nr cr c c' : Nat} {vr vs vs' : List Value} {r : List Int} (ho : OwnL W w.heap.size A L.length c vs L) (hb : Below w.heap.size w W) (hr : OwnL W w.heap.size Ar nr cr vr R) (hs : ∀ g, (Value.slice Ar nr cr).ownBlock = some g → (Value.slice A L.length c).ownBlock ≠ some g)
    (ho' : OwnL W' w.heap.size A' (L.length + 1) c' vs' (L ++ [r])) (hg : W.grownBy W' (Value.slice A L.length c).ownBlock) (hat : (Value.slice A' (L.length + 1) c').ownBlock = (Value.slice A L.length c).ownBlock ∨ (Value.slice A' (L.length + 1) c').ownBlock = some W.heap.size) (hM : M = L ++ [r]) : InL w Ar nr cr vr R M (.slice A' (L.length + 1) c') W' := by
  subst hM
  have e : (L ++ [r]).length = L.length + 1 := by simp
  refine ⟨A', c', vs', by rw [e], by rw [e]; exact ho', hb.grown hg hb.size (fun k e => (ownBlock_lt ho k e).1), hr.other ho.row hg ?_, fun g h1 h2 => ?_⟩
  · cases h : (Value.slice Ar nr cr).ownBlock with
    | none => exact .inl rfl
    | some g => exact .inr (fun e => hs g h e.symm)
  · rw [e] at h2
    rcases hat with h | h
    · rw [h] at h2; exact hs g h1 h2
    · rw [h] at h2
      have := ownBlock_lt hr g h1
      simp only [Option.some.injEq] at h2
      omega
theorem take_row {R : List (List Int)} {i : Nat} (h : i < R.length) (f : List Int → List Int) : (R.take (i + 1)).map f = (R.take i).map f ++ [f (rowAt R i)] := by
  rw [List.take_succ_eq_append_getElem h, List.map_append]
  unfold rowAt
  simp [List.getD_eq_getElem?_getD, h]
theorem row_len {s p x i : Nat} (h : i < (lst s p x).length) : (rowAt (lst s p x) i).length = s := by
  refine lst_len s p x _ ?_
  unfold rowAt
  rw [List.getD_eq_getElem?_getD, List.getElem?_eq_getElem h]
  exact List.getElem_mem h
theorem one_box (w : World) (v : Value) (t : TypeId) : (w.alloc (.cells #[v] t)).cell? ⟨w.heap.size, 0, none⟩ = some v := by
  have := cell_one_new w v t 0 v rfl
  rw [add0] at this
  exact this

set_option maxRecDepth 100000 in
set_option maxHeartbeats 4000000 in
theorem l3Lists_any : ∀ (s P X : Nat) (n p l : Int) (w : World), n = s → p = P → l = X → s ≤ 6 → P ≤ 30 → 1 ≤ X → X ≤ 31 →
    Calls Try.prog 72 #[.int .i64 n, .int .i64 p, .int .i64 l] w fun e w' => ∃ A c, e = .returned (.slice A (lst s P X).length c) ∧ (∃ vs, OwnL w' w.heap.size A (lst s P X).length c vs (lst s P X)) ∧ Below w.heap.size w w'
  | 0, P, X, n, p, l, w, h1, h2, h3, h4, h5, h6, h7 => by
    have d1 : (n == 0) = true := by simp; omega
    by_cases hp : P = 0
    · have d2 : (p == 0) = true := by simp; omega
      have HL := Lib.hid (show lst 0 P X = [[]] by rw [lst, if_pos hp])
      have HU := Lib.hid (OwnL.unit w)
      clear h1 h2 h3 hp
      go_enter Try.func72, Try.ntmps72
      go_wp2_with fail
      rw [HL.out]
      go_ret
      exact ⟨_, 1, rfl, ⟨_, HU.out⟩, below_alloc (below_alloc (Below.refl _ _) _) _⟩
    · have d2 : (p == 0) = false := by simp; omega
      have HL := Lib.hid (show lst 0 P X = [] by rw [lst, if_neg hp])
      have HU := Lib.hid (OwnL.empty w)
      clear h1 h2 h3 hp
      go_enter Try.func72, Try.ntmps72
      go_wp2_with fail
      rw [HL.out]
      go_ret
      exact ⟨_, 0, rfl, ⟨_, HU.out⟩, below_alloc (Below.refl _ _) _⟩
  | s + 1, P, X, n, p, l, w, h1, h2, h3, h4, h5, h6, h7 => by
    have IH := Lib.hid (l3Lists_any s)
    have d1 : (n == 0) = false := by simp; omega
    have HL := Lib.hid (lst_succ s P X)
    have H0 : Hid (AllL w [] (.slice (some ⟨w.heap.size, 0, none⟩) 0 0) (w.alloc (.cells #[] 23))) := Lib.hid ⟨_, 0, [], rfl, OwnL.empty w, below_alloc (Below.refl _ _) _⟩
    have hdv : P / (s + 1) ≤ P := Nat.div_le_self _ _
    obtain ⟨K, hK⟩ : ∃ K, K = P / (s + 1) + 1 - X := ⟨_, rfl⟩
    have hK31 : K ≤ 31 := by omega
    have hpw := pow_six (s := s) (by omega)
    have H1 := Lib.hid h1
    have H2 := Lib.hid h2
    have H3 := Lib.hid h3
    have HK := Lib.hid hK
    have n1 : 1 ≤ n ∧ n ≤ 6 := by omega
    have p1 : 0 ≤ p ∧ p ≤ 30 := by omega
    have l1 : 1 ≤ l ∧ l ≤ 31 := by omega
    clear h1 h2 h3 hK hdv
    go_enter Try.func72, Try.ntmps72
    go_wp2_with fail
    go_loopw [7, 8, 9, 10] (fun v x _ _ wr => ∃ k : Nat, k ≤ K ∧ x = .int .i64 (l + k) ∧ AllL w (lstTo s P X k) v wr) (fun _ x _ _ _ => (100 - intOf x).toNat)
    case atStart => exact ⟨0, Nat.zero_le _, by simp, H0.out⟩
    case round =>
      clear H0
      obtain ⟨k, hk, rfl, hall⟩ := hrel
      have HA := Lib.hid hall
      clear hall
      have hbx := mul_box (l := l) (n := n) (k := k) l1.1 (by omega) (by omega) n1.2
      have hrl := mul_rel (k := k) H3.out H1.out H2.out
      have v1 : IntKind.i64.wrap ((l + k) * n) = (l + k) * n := wrap_is rfl (by omega) (by omega)
      rw [← HK.out] at hrl
      by_cases hlt : (l + (k : Int)) * n ≤ p
      · have d2 : decide ((l + (k : Int)) * n ≤ p) = true := by simpa using hlt
        have hkK := hrl.1 hlt
        have hq := IH.out (P - (X + k)) (X + k) (n - 1) (p - (l + k)) (l + k) wr (by have := H1.out; omega) (by have := H2.out; have := H3.out; have := HK.out; have := Nat.div_le_self P (s + 1); omega) (by have := H3.out; omega) (by omega) (by omega) (by omega) (by have := HK.out; have := Nat.div_le_self P (s + 1); omega)
        have v2 : IntKind.i64.wrap (n - 1) = n - 1 := wrap_is rfl (by omega) (by omega)
        have v3 : IntKind.i64.wrap (p - (l + k)) = p - (l + k) := wrap_is rfl (by omega) (by omega)
        have hlen := lstTo_bd s P X k h5
        have hlr := lst_bd s (P - (X + k)) (X + k) (by omega)
        have hrowlen : ∀ i, i < (lst s (P - (X + k)) (X + k)).length → (rowAt (lst s (P - (X + k)) (X + k)) i).length = s := fun i hi => row_len hi
        have HS := Lib.hid (lstTo_succ s P X k)
        have hkm := Nat.mul_le_mul hk hpw
        have hx : ((X + k : Nat) : Int) = l + k := by have := H3.out; omega
        rw [hx] at HS
        generalize lst s (P - (X + k)) (X + k) = R at *
        generalize lstTo s P X k = M at *
        have hR : R.length ≤ 33554432 := by omega
        clear hlt hrl hbx hx
        go_wp2_with fail
        refine hq.mono ?_
        rintro e w2 ⟨Ar, cr, rfl, ⟨vr, hr2⟩, hb2⟩
        have HIn := Lib.hid (HA.out.call hr2 hb2)
        clear hr2 hb2 hq
        go_wp2_with fail
        go_loopw [7, 10] (fun v j wr => ∃ i : Nat, i ≤ R.length ∧ j = .int .i64 i ∧ InL w Ar R.length cr vr R (M ++ (R.take i).map ((l + k) :: ·)) v wr) (fun _ j _ => R.length - (intOf j).toNat)
        case atStart => exact ⟨0, Nat.zero_le _, rfl, by simpa using HIn.out⟩
        case round =>
          clear HIn HA
          obtain ⟨i, hi, rfl, hin⟩ := hrel
          by_cases hli : i < R.length
          · have HT := Lib.hid (take_row hli ((l + (k : Int)) :: ·))
            obtain ⟨A, c, vs, rfl, q1, q2, q3, q4⟩ := hin
            obtain ⟨g, A3, c3, rfl, hcg, hro⟩ := q3.at_ hli
            have hrl := hrowlen i hli
            have hgl : g < wr.heap.size := World.block_lt_of_cell? _ _ hcg
            have HR := Lib.hid q3
            have HQ := Lib.hid q1
            have HB := Lib.hid q2
            have HN := Lib.hid q4
            have hML : (M ++ (R.take i).map ((l + (k : Int)) :: ·)).length ≤ 2147483648 := by
              rw [List.length_append, List.length_map, List.length_take]
              omega
            have HM := Lib.hid (show M ++ (R.take (i + 1)).map ((l + (k : Int)) :: ·) = (M ++ (R.take i).map ((l + (k : Int)) :: ·)) ++ [(l + (k : Int)) :: rowAt R i] by rw [HT.out, List.append_assoc])
            rw [hrl] at hcg hro
            generalize rowAt R i = r at *
            generalize M ++ (R.take i).map ((l + (k : Int)) :: ·) = L at *
            have hs0 := q2.size
            have ho0 := Own.lit wr (B := wr.heap.size) (Nat.le_refl _) [l + (k : Int)] (by simp)
            have hr0 := hro.rd.al (.cells #[.int .i64 (l + (k : Int))] 3)
            have hrl2 : 1 + s ≤ 16777216 := by omega
            have i0 : (0 : Int) ≤ (i : Int) := by omega
            have i1 : (i : Int) < (R.length : Int) := by omega
            clear q1 q2 q3 q4 hro hrowlen hlen hlr hkm
            go_wp2_with (first
              | (at_builtin; refine wpList_app rfl _ _ rfl rfl ho0 rfl hr0 hrl2 (by simp) ?_; intro A4 c4 W4 o4 g4; have b4 := app_mark (below_alloc (Below.refl wr.heap.size wr) _) ho0 (Nat.le_refl _) g4)
              | (at_builtin; refine wpList_appRowL rfl _ _ rfl rfl ((HQ.out.same b4).al _) ((l + (k : Int)) :: r) rfl (one_box _ _ _) ((o4.lower hs0).al _) hML (by have := b4.size; simp; omega) ?_; intro A5 c5 vs5 W5 o5 g5 at5))
            go_roundw
            case rel => exact ⟨i + 1, by omega, by go_num, InL.push ((HQ.out.same b4).al _) (below_alloc (below_then HB.out b4) _) ((HR.out.same b4).al _) HN.out o5 g5 at5 HM.out⟩
            case measure => simp [intOf]; omega
          · obtain rfl : i = R.length := by omega
            rw [List.take_length, ← HS.out] at hin
            have HI := Lib.hid hin.all
            clear hin
            go_wp2_with fail
            go_roundw
            case rel => exact ⟨k + 1, by omega, by go_num, HI.out⟩
            case measure => simp [intOf]; omega
      · have d2 : decide ((l + (k : Int)) * n ≤ p) = false := by simpa using hlt
        have HKK := Lib.hid (show k = K by have := mt hrl.2 hlt; omega)
        clear hlt hrl hbx
        go_wp2_with fail
        go_ret
        obtain ⟨A, c, vs, rfl, q1, q2⟩ := HA.out
        rw [HL.out, ← HK.out, ← HKK.out]
        exact ⟨A, c, rfl, ⟨vs, q1⟩, q2⟩
end Go.Proofs.Ytliplbifgldjeaa
