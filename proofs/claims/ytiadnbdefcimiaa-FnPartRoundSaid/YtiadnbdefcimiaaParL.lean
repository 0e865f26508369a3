/- Joined: ParL, ParL2. -/
import Derived.Test.YtiadnbdefcimiaaParS
import Derived.Test.YtiadnbdefcimiaaRowX
import Derived.Test.YtiadnbdefcimiaaQuiTail
/- The model's part lists: l9Lists, l9Best. -/
namespace Go.Proofs.Ytiadnbdefcimiaa
open Go.RowKit Go.Sort Go.Lib

/-- Rows that are known by their values, each the call's own. -/
def RowsO (w : World) (B : Nat) (vs : List Value) (L : List (List Int)) : Prop :=
  vs.length = L.length ∧ ∀ i, i < L.length → ∃ A c, vs[i]? = some (.slice A (rowL L i).length c) ∧ Own w B A (rowL L i).length c (rowL L i)
theorem RowsO.nil_ (w : World) (B : Nat) : RowsO w B [] [] := ⟨rfl, fun i hi => absurd hi (by simp)⟩
theorem RowsO.same {w w' : World} {B : Nat} {vs : List Value} {L : List (List Int)} (h : RowsO w B vs L) (hb : Below w.heap.size w w') : RowsO w' B vs L :=
  ⟨h.1, fun i hi => by
    obtain ⟨A, c, e, ho⟩ := h.2 i hi
    exact ⟨A, c, e, ho.same hb⟩⟩
theorem RowsO.lower {w : World} {B B' : Nat} {vs : List Value} {L : List (List Int)} (h : RowsO w B vs L) (hB : B' ≤ B) : RowsO w B' vs L :=
  ⟨h.1, fun i hi => by
    obtain ⟨A, c, e, ho⟩ := h.2 i hi
    exact ⟨A, c, e, ho.lower hB⟩⟩
/-- What turns a slice of rows turns none of them. -/
theorem RowsO.app {w w' : World} {B B2 n c : Nat} {A : Option Addr} {vs us : List Value} {L : List (List Int)} (h : RowsO w B vs L) (ho : OwnW w B2 A n c us) (hg : w.grownBy w' (Value.slice A n c).ownBlock) : RowsO w' B vs L :=
  ⟨h.1, fun i hi => by
    obtain ⟨A1, c1, e, h1⟩ := h.2 i hi
    refine ⟨A1, c1, e, World.ownsRow.kept h1 hg ?_⟩
    rcases h1.2 with ⟨e1, _⟩ | ⟨g, cap, cur, e1, _, hh, _⟩
    · rw [e1]; exact .inl rfl
    · refine .inr ?_
      rw [e1]
      rcases ho.1.2 with ⟨e', _⟩ | ⟨g', cap', cur', e', _, hh', _⟩
      · rw [e']; simp [Value.ownBlock]
      · rw [e']
        intro hgg
        simp only [Value.ownBlock, Option.some.injEq] at hgg
        subst hgg
        rw [hh] at hh'
        simp only [Option.some.injEq, Obj.cells.injEq] at hh'
        exact absurd hh'.2.1 (by decide)⟩
theorem RowsO.cat {w : World} {B : Nat} {vs us : List Value} {L M : List (List Int)} (h : RowsO w B vs L) (k : RowsO w B us M) : RowsO w B (vs ++ us) (L ++ M) := by
  refine ⟨by simp [h.1, k.1], fun i hi => ?_⟩
  by_cases hlt : i < L.length
  · have e1 : (vs ++ us)[i]? = vs[i]? := List.getElem?_append_left (by rw [h.1]; exact hlt)
    have e2 : rowL (L ++ M) i = rowL L i := by unfold rowL; simp [List.getD_eq_getElem?_getD, List.getElem?_append_left hlt]
    rw [e1, e2]
    exact h.2 i hlt
  · have e1 : (vs ++ us)[i]? = us[i - L.length]? := by rw [List.getElem?_append_right (by rw [h.1]; omega), h.1]
    have e2 : rowL (L ++ M) i = rowL M (i - L.length) := by unfold rowL; simp [List.getD_eq_getElem?_getD, List.getElem?_append_right (show L.length ≤ i by omega)]
    rw [e1, e2]
    exact k.2 (i - L.length) (by simp at hi; omega)
theorem RowsO.slices {w : World} {B : Nat} {vs : List Value} {L : List (List Int)} (h : RowsO w B vs L) : ∀ v ∈ vs, ∃ A m c, v = .slice A m c := fun v hv => by
  obtain ⟨i, hi, e⟩ := List.getElem_of_mem hv
  obtain ⟨A, c, e1, _⟩ := h.2 i (by rw [← h.1]; exact hi)
  rw [List.getElem?_eq_getElem hi, e] at e1
  injection e1 with e1
  exact ⟨A, _, c, e1⟩

/-! How many there are at most. -/
def bdL : Nat → Nat → Nat
  | 0, _ => 1
  | r + 1, M => (M + 2) * bdL r (M + 1)
theorem bdL_mono : ∀ (r : Nat) {M M' : Nat}, M ≤ M' → bdL r M ≤ bdL r M'
  | 0, _, _, _ => Nat.le_refl _
  | r + 1, M, M', h => Nat.mul_le_mul (by omega) (bdL_mono r (by omega))
theorem lisF_bd {rec : List Int → Nat → List (List Int)} {Q : Tri → Bool} {l : List Int} {M b : Nat} (h : ∀ l' M', M' ≤ M + 1 → (rec l' M').length ≤ b) : ∀ c, c ≤ M + 1 → (lisF rec Q l M c).length ≤ (c + 1) * b
  | 0, _ => by rw [lisF, Nat.zero_add, Nat.one_mul]; exact h _ _ (by omega)
  | c + 1, hc => by
    rw [lisF, List.length_append, Nat.succ_mul]
    refine Nat.add_le_add (lisF_bd h c (by omega)) ?_
    split
    · exact Nat.zero_le _
    · exact h _ _ (by omega)
theorem lis_bd {Q : Tri → Bool} : ∀ (r : Nat) (l : List Int) (M : Nat), (lisP Q r l M).length ≤ bdL r M
  | 0, l, M => by rw [lisP]; split <;> simp [bdL]
  | r + 1, l, M => by
    rw [lisP, bdL]
    exact lisF_bd (fun l' M' h => Nat.le_trans (lis_bd r l' M') (bdL_mono r h)) (M + 1) (Nat.le_refl _)
theorem bdL_few : ∀ r, r < 10 → ∀ M, M < 10 → r + M ≤ 9 → bdL r M ≤ 3628800 := by decide
theorem lisF_few {Q : Tri → Bool} {r M : Nat} (l : List Int) (h : r + 1 + M ≤ 9) {c : Nat} (hc : c ≤ M + 1) : (lisF (lisP Q r) Q l M c).length ≤ 3628800 := by
  have h1 := lisF_bd (Q := Q) (l := l) (fun l' M' h => Nat.le_trans (lis_bd (Q := Q) r l' M') (bdL_mono r h)) c hc
  have h2 := bdL_few (r + 1) (by omega) M (by omega) (by omega)
  rw [bdL] at h2
  exact Nat.le_trans h1 (Nat.le_trans (Nat.mul_le_mul_right _ (by omega)) h2)

/-- What a call for lists gives. -/
def GotL (w : World) (L : List (List Int)) (e : Ending) (w' : World) : Prop :=
  ∃ A c vs, e = .returned (.slice A L.length c) ∧ OwnW w' w.heap.size A L.length c vs ∧ RowsO w' w.heap.size vs L ∧ Below w.heap.size w w'
/-- The lists so far. -/
def LstL (w : World) (L : List (List Int)) (v : Value) (wr : World) : Prop :=
  ∃ A c vs, v = .slice A L.length c ∧ OwnW wr w.heap.size A L.length c vs ∧ RowsO wr w.heap.size vs L ∧ Below w.heap.size w wr
theorem allThree_step {l : List Int} {M k : Nat} (hk : k < M) (_ : ∀ s : Nat, s < k → (ofP l (s : Int)).length = 3) (hn : (ofP l (k : Int)).length ≠ 3) : allThree l M = false := by
  cases hc : allThree l M with
  | false => rfl
  | true => exact absurd (allThree_iff.1 hc k hk) hn
end Go.Proofs.Ytiadnbdefcimiaa

/- The model's part lists: the walk of l9Lists. -/
namespace Go.Proofs.Ytiadnbdefcimiaa
open Go.RowKit Go.Sort Go.Lib

theorem wpList_appW {ops : Array Oper} {rest : List Oper} {o : Oper} {a : Act} {Q : Exit → Act → World → Prop} {W : World} (hgd : o.guard = none) (s x : Operand)
    (ho : o.op = .call { callee := .builtin .append, args := #[s, x], argTypes := #[60, 60] })
    {B n c : Nat} {A : Option Addr} {vs : List Value} (hs : a.eval s = .slice A n c) (hown : OwnW W B A n c vs) {A2 : Option Addr} {m c2 : Nat} {us : List Value} (hx : a.eval x = .slice A2 m c2) (hr : SrcV W A2 m us) (hn : n + m ≤ 16777216) (hB : B ≤ W.heap.size)
    (h : ∀ A' c' W', OwnW W' B A' (n + m) c' (vs ++ us) → W.grownBy W' (Value.slice A n c).ownBlock → wpList Try.prog ops Q rest (a.put o.dst (.slice A' (n + m) c')) W') : wpList Try.prog ops Q (o :: rest) a W :=
  wpList_plain hgd fun _ hK => wp_appW s x ho hs hown hx hr hn hB fun A' c' W' h2 h3 => hK _ _ (h A' c' W' h2 h3)
theorem OwnW.one (w : World) {B : Nat} (hB : B ≤ w.heap.size) {A : Option Addr} {m c : Nat} : OwnW (w.alloc (.cells #[.slice A m c] 23)) B (some ⟨w.heap.size, 0, none⟩) 1 1 [.slice A m c] :=
  ⟨⟨rfl, .inr ⟨w.heap.size, 1, _, rfl, hB, World.alloc_heap_new w _, Nat.le_refl _, by unfold maxLen; omega, rfl, rfl⟩⟩, fun v hv => ⟨A, m, c, by simpa using hv⟩⟩
theorem RowsO.one {w : World} {B n c : Nat} {A : Option Addr} {l : List Int} (h : Own w B A n c l) : RowsO w B [.slice A n c] [l] :=
  ⟨rfl, fun i hi => by
    obtain rfl : i = 0 := by simpa using hi
    have hl : l.length = n := h.len
    exact ⟨A, c, by unfold rowL; simp [hl], by
      have : rowL [l] 0 = l := rfl
      rw [this, hl]; exact h⟩⟩
theorem two_of {α : Type} {l : List α} (h : l.length = 2) : ∃ a b, l = [a, b] := by
  match l, h with
  | [a, b], _ => exact ⟨a, b, rfl⟩

set_option maxRecDepth 100000 in
set_option maxHeartbeats 60000000 in
theorem l9Lists_any (A : Option Addr) (n c : Nat) (zs : List Int) (hn : n ≤ 9) (hz : ∀ j, j < n → 1 ≤ zs.getD j 0 ∧ zs.getD j 0 ≤ 60) : ∀ (r n1 M : Nat) (A1 : Option Addr) (c1 : Nat) (l : List Int) (w : World), n1 + r = n → M ≤ n1 → Rd w A n zs → Rd w A1 n1 l →
    Calls Try.prog 74 #[.slice A n c, .slice A1 n1 c1, .int .i64 M] w (GotL w (lisP (cloQ zs) r l M)) := by
  intro r
  induction r with
  | zero =>
    intro n1 M A1 c1 l w h1 hM h hl
    obtain rfl : n1 = n := by omega
    have HL := Lib.hid hl
    have HP := Lib.hid (show lisP (cloQ zs) 0 l M = if allThree l M = true then [l] else [] from rfl)
    clear h hz
    go_enter Try.func74, Try.ntmps74
    go_wp2_with fail
    go_loopw [8] (fun t wr => ∃ k : Nat, k ≤ M ∧ t = .int .i64 k ∧ (∀ s : Nat, s < k → (ofP l (s : Int)).length = 3) ∧ Below w.heap.size w wr) (fun t _ => M - (intOf t).toNat)
    case atStart => exact ⟨0, Nat.zero_le _, rfl, fun s hs => absurd hs (by omega), Below.refl _ _⟩
    case round =>
      obtain ⟨k, hk, rfl, hup, hb⟩ := hrel
      have HU := Lib.hid hup
      clear hup hl
      by_cases hlt : k < M
      · go_wp2_with fail
        refine (l9Of_any A1 n1 c1 l (k : Int) wr (HL.out.same hb) (by omega)).mono ?_
        rintro e w2 ⟨⟨A2, c2, rfl, o2⟩, b2⟩
        have hq : (ofP l (k : Int)).length = (ofP l (k : Int)).length := rfl
        have HB2 := Lib.hid (below_then hb b2)
        obtain ⟨q, eq⟩ : ∃ q, q = (ofP l (k : Int)).length := ⟨_, rfl⟩
        have EQ := Lib.hid eq
        rw [← eq]
        clear o2 b2 hq eq
        by_cases h3 : q = 3
        · subst h3
          go_wp2_with fail
          go_roundw
          case rel => exact ⟨k + 1, by omega, by go_num, fun s hs => by
            by_cases e : s = k
            · rw [e]; exact EQ.out.symm
            · exact HU.out s (by omega), HB2.out⟩
          case measure => simp [intOf]; omega
        · have hne : ((q : Int) != 3) = true := by simp; omega
          have HN := Lib.hid (allThree_step hlt HU.out (by rw [← EQ.out]; exact h3))
          go_wp2_with fail
          go_ret
          have hp := HP.out
          rw [HN.out, if_neg Bool.false_ne_true] at hp
          rw [hp]
          exact ⟨_, _, [], rfl, OwnW.empty _ HB2.out.size, RowsO.nil_ _ _, below_alloc HB2.out _⟩
      · obtain rfl : k = M := by omega
        have HA := Lib.hid (allThree_iff.2 HU.out)
        have HB := Lib.hid hb
        have hl2 : Rd (wr.alloc (.cells #[] 3)) A1 n1 l := (HL.out.same hb).al _
        have he : Own (wr.alloc (.cells #[] 3)) w.heap.size (some ⟨wr.heap.size, 0, none⟩) 0 0 [] := Own.lit wr hb.size [] (by simp)
        have HE := Lib.hid (And.intro he hl2)
        have hsz := hb.size
        clear he hl2 hb
        go_wp2_with (at_builtin; refine wpList_app rfl (.tmp 29) (.tmp 30) rfl rfl HE.out.1 rfl HE.out.2 (by omega) (by simp; omega) ?_; intro A' c' W' ho' hg')
        have hb' := app_mark (below_alloc HB.out (.cells #[] 3)) HE.out.1 (Nat.le_refl _) hg'
        simp only [Nat.zero_add, List.nil_append] at ho'
        have HO := Lib.hid ho'
        have HBB := Lib.hid hb'
        clear ho' hb' hg'
        go_ret
        have hp := HP.out
        rw [if_pos HA.out] at hp
        rw [hp]
        refine ⟨_, _, [.slice A' n1 c'], by simp, OwnW.one _ HBB.out.size, RowsO.one (HO.out.al _), below_alloc HBB.out _⟩
  | succ r ih =>
    intro n1 M A1 c1 l w h1 hM h hl
    have hll := hl.1
    have IH := Lib.hid (fun (A2 : Option Addr) (c2 : Nat) (l2 : List Int) (M2 : Nat) (W : World) (hM2 : M2 ≤ n1 + 1) (h2 : Rd W A n zs) (hl2 : Rd W A2 (n1 + 1) l2) => ih (n1 + 1) M2 A2 c2 l2 W (by omega) hM2 h2 hl2)
    have HP := Lib.hid (show lisP (cloQ zs) (r + 1) l M = lisF (lisP (cloQ zs) r) (cloQ zs) l M (M + 1) from rfl)
    have HL := Lib.hid hl
    have HR := Lib.hid h
    have HZ := Lib.hid hz
    have hne : decide (n1 = n) = false := by rw [decide_eq_false_iff_not]; omega
    have hne2 : ((n1 : Int) == (n : Int)) = false := by simp; omega
    have hne3 : decide ((n1 : Int) = (n : Int)) = false := by rw [decide_eq_false_iff_not]; omega
    have hl2 : Rd (w.alloc (.cells #[] 3)) A1 n1 l := hl.al _
    have he : Own (w.alloc (.cells #[] 3)) w.heap.size (some ⟨w.heap.size, 0, none⟩) 0 0 [] := Own.lit w (Nat.le_refl _) [] (by simp)
    have HE := Lib.hid (And.intro he hl2)
    clear he hl2 h hl hz ih
    go_enter Try.func74, Try.ntmps74
    go_wp2_with (first
      | (at_builtin; refine wpList_app rfl (.tmp 34) (.tmp 35) rfl rfl HE.out.1 rfl HE.out.2 (by omega) (by simp) ?_; intro A' c' W' ho' hg'; have hb' := app_mark (below_alloc (Below.refl w.heap.size w) (.cells #[] 3)) HE.out.1 (Nat.le_refl _) hg'; simp only [Nat.zero_add, List.nil_append] at ho'; have HO := Lib.hid ho'; have HB := Lib.hid hb'; have hsz := hb'.size; clear ho' hb' hg')
      | (at_builtin; refine wpList_app rfl (.tmp 36) (.tmp 37) rfl rfl (HO.out.al (.cells #[.int .i64 (-1)] 3)) rfl (rd_one W' (-1)) (by omega) (by simp; omega) ?_; intro A2 c2 W2 ho2 hg2; have hb2 := app_mark (below_alloc HB.out (.cells #[.int .i64 (-1)] 3)) (HO.out.al (.cells #[.int .i64 (-1)] 3)) (Nat.le_refl _) hg2; have HO2 := Lib.hid ho2; have HB2 := Lib.hid hb2; clear ho2 hb2 hg2))
    refine (IH.out A2 c2 (l ++ [-1]) M W2 (by omega) (HR.out.same HB2.out) HO2.out.rd).mono ?_
    rintro e w3 ⟨A3, c3, vs3, rfl, o3, r3, b3⟩
    have hst : LstL w (lisF (lisP (cloQ zs) r) (cloQ zs) l M 0) (.slice A3 (lisP (cloQ zs) r (l ++ [-1]) M).length c3) w3 :=
      ⟨A3, c3, vs3, rfl, ⟨⟨o3.1.1, o3.1.2.imp id fun ⟨g, cap, cur, h1, h2, h3⟩ => ⟨g, cap, cur, h1, Nat.le_trans HB2.out.size h2, h3⟩⟩, o3.2⟩, r3.lower HB2.out.size, below_then HB2.out b3⟩
    have HST := Lib.hid hst
    clear hst o3 r3 b3
    go_wp2_with fail
    go_loopw [9, 10, 11] (fun v t _ wr => ∃ k : Nat, k ≤ M + 1 ∧ t = .int .i64 k ∧ LstL w (lisF (lisP (cloQ zs) r) (cloQ zs) l M k) v wr) (fun _ t _ _ => M + 1 - (intOf t).toNat)
    case atStart => exact ⟨0, by omega, rfl, HST.out⟩
    case round =>
      clear HST HO2 HB2 HO HB
      obtain ⟨k, hk, rfl, hL⟩ := hrel
      have hfew := lisF_few (Q := cloQ zs) (r := r) (M := M) l (by omega) hk
      have HF := Lib.hid (show lisF (lisP (cloQ zs) r) (cloQ zs) l M (k + 1) = lisF (lisP (cloQ zs) r) (cloQ zs) l M k ++ if badP (cloQ zs) l k = true then [] else lisP (cloQ zs) r (l ++ [(k : Int)]) (max M (k + 1)) from rfl)
      have hL1 : k = M + 1 → lisF (lisP (cloQ zs) r) (cloQ zs) l M (M + 1) = lisF (lisP (cloQ zs) r) (cloQ zs) l M k := fun e => by rw [e]
      have HL1 := Lib.hid hL1
      clear hL1
      generalize hL0 : lisF (lisP (cloQ zs) r) (cloQ zs) l M k = L0 at *
      obtain ⟨Ao, co, vo, rfl, oo, ro, bo⟩ := hL
      have HOO := Lib.hid (And.intro oo (And.intro ro bo))
      have hsz0 := bo.size
      clear hL0 oo ro
      by_cases hlt : k ≤ M
      · have dk : decide ((k : Int) ≤ (M : Int)) = true := by rw [decide_eq_true_iff]; omega
        go_wp2_with fail
        refine (l9Of_any A1 n1 c1 l (k : Int) wr (HL.out.same bo) (by omega)).mono ?_
        rintro e w2 ⟨⟨A2, c2, rfl, o2⟩, b2⟩
        have hbad : badP (cloQ zs) l k = (((ofP l (k : Int)).length == 3) || (((ofP l (k : Int)).length == 2) && !cloQ zs ((ofP l (k : Int)).getD 0 0, (ofP l (k : Int)).getD 1 0, l.length))) := rfl
        have hmem : ∀ p ∈ ofP l (k : Int), p < n1 := fun p hp => by have := (ofP_mem.1 hp).1; omega
        generalize hOf : ofP l (k : Int) = L2 at *
        have b3 := below_then bo b2
        have HB3 := Lib.hid b3
        have HR3 := Lib.hid (HR.out.same b3)
        have HC := Lib.hid (fun (A9 : Option Addr) (c9 M2 : Nat) (W : World) (hW : Below w.heap.size w W) (hM2 : M2 ≤ n1 + 1) (h9 : Rd W A9 (n1 + 1) (l ++ [(k : Int)])) => IH.out A9 c9 (l ++ [(k : Int)]) M2 W hM2 (HR.out.same hW) h9)
        have hq := o2.len
        have HQ := Lib.hid hbad
        have hb0 : Below w2.heap.size w2 w2 := Below.refl _ _
        by_cases h3 : L2.length = 3
        · have hn3 : ((L2.length : Int) == 3) = true := by rw [h3]; rfl
          have HB1 := Lib.hid (show badP (cloQ zs) l k = true by rw [HQ.out, h3]; rfl)
          have HOO2 := Lib.hid (And.intro (HOO.out.1.same b2) (And.intro (HOO.out.2.1.same b2) HB3.out))
          clear o2 hbad hq hmem
          generalize L2.length = q at *
          subst h3
          go_wp2_with fail
          refine wp_region_quiet_below (by kernel_rfl) (by kernel_rfl) ?_
          repeat (go_big_quiet_step (fail))
          refine wpQuiet_nil ?_
          intro _ hw'
          obtain ⟨⟨dq, osq⟩, hw''⟩ := hw'
          subst hw''
          have bq := below_regrown w2 dq osq
          generalize Go.Sort.grow (redrawn w2 dq) osq = wq at bq ⊢
          go_wp2_with fail
          go_roundw
          case rel =>
            have hf := HF.out
            rw [HB1.out, if_pos rfl, List.append_nil] at hf
            have hfin : LstL w (lisF (lisP (cloQ zs) r) (cloQ zs) l M (k + 1)) (.slice Ao L0.length co) wq := by
              rw [hf]; exact ⟨Ao, co, vo, rfl, HOO2.out.1.same bq, HOO2.out.2.1.same bq, below_then HOO2.out.2.2 bq⟩
            first | exact ⟨k + 1, by omega, by go_num, hfin⟩ | ((repeat apply Exists.intro); exact ⟨⟨k + 1, by omega, by go_num, hfin⟩, rfl⟩)
          case measure => simp [intOf]; omega
        · by_cases h2 : L2.length = 2
          · obtain ⟨p0, p1, rfl⟩ := two_of h2
            have hp0 := hmem p0 (by simp)
            have hp1 := hmem p1 (by simp)
            obtain ⟨g, rfl, _, _⟩ := o2.form (by simp)
            have z0 : w2.cell? ⟨g, 0, none⟩ = some (.int .i64 p0) := o2.cell 0 (by simp)
            have z1 : w2.cell? ⟨g, 1, none⟩ = some (.int .i64 p1) := o2.cell 1 (by simp)
            obtain ⟨b, off, rfl, _, hc⟩ := HR3.out.2 (by omega)
            have x0 := hc p0 (by omega)
            have x1 := hc p1 (by omega)
            have x2 := hc n1 (by omega)
            have y0 := cell_regrown z0
            have y1 := cell_regrown z1
            have y2 := cell_regrown x0
            have y3 := cell_regrown x1
            have y4 := cell_regrown x2
            have hx := HZ.out p0 (by omega)
            have hy := HZ.out p1 (by omega)
            have hzz := HZ.out n1 (by omega)
            have hv : badP (cloQ zs) l k = !triB (zs.getD p0 0) (zs.getD p1 0) (zs.getD n1 0) := by
              rw [HQ.out, hll]; rfl
            generalize zs.getD p0 0 = x at *
            generalize zs.getD p1 0 = y at *
            generalize zs.getD n1 0 = z at *
            obtain ⟨v, ev⟩ : ∃ v, triB x y z = v := ⟨_, rfl⟩
            rw [ev] at hv
            have HV := Lib.hid hv
            have cE : ∀ d os, Calls Try.prog 73 #[.int .i64 x, .int .i64 y, .int .i64 z] (grow (redrawn w2 d) os) fun e w'' => e = .returned (.bool v) ∧ ∃ p : Regrown, w'' = grow (redrawn w2 p.d) p.os := fun d os => (l1Three_is ev hx.1 hx.2 hy.1 hy.2 hzz.1 hzz.2 _).mono (fun e w' h => ⟨h.1, ⟨⟨d, os⟩, h.2.symm⟩⟩)
            have q0 : (p0 : Int) < (n : Int) := by omega
            have q1 : (p1 : Int) < (n : Int) := by omega
            have q2 : (n1 : Int) < (n : Int) := by omega
            have HOO2 := Lib.hid (And.intro (HOO.out.1.same b2) (And.intro (HOO.out.2.1.same b2) HB3.out))
            have hfn : Fence.wide.fn 73 := trivial
            have cF : ∀ r d os, CallsIn Fence.wide r Try.prog 73 #[.int .i64 x, .int .i64 y, .int .i64 z] (grow (redrawn w2 d) os) fun e w'' => e = .returned (.bool v) ∧ ∃ p : Regrown, w'' = grow (redrawn w2 p.d) p.os := fun r d os => callsIn_wide.2 (cE d os)
            clear o2 hbad hq hmem hc x0 x1 x2 hv ev hx hy hzz hOf h3 h2 cE
            cases v with
            | false =>
              have HB1 := Lib.hid (show badP (cloQ zs) l k = true by rw [HV.out]; rfl)
              go_wp2_with fail
              refine (wpIn_wide (n := 5)).1 ?_
              refine region_qtail 27 (by kernel_rfl) (by kernel_rfl) ?_
              simp only [List.take_succ_cons, List.take_zero, List.drop_succ_cons, List.drop_zero]
              repeat (quiet_step_in (with_reducible exact cF _ _ _))
              refine wpQuietIn_nil ?_
              intro _ hw'
              obtain ⟨⟨dq, osq⟩, hw''⟩ := hw'
              subst hw''
              have bq := below_regrown w2 dq osq
              generalize Go.Sort.grow (redrawn w2 dq) osq = wq at bq ⊢
              gi_wp2_with fail
              clear z0 z1 y0 y1 y2 y3 y4 cF
              go_wp2_with fail
              go_roundw
              case rel =>
                have hf := HF.out
                rw [HB1.out, if_pos rfl, List.append_nil] at hf
                have hfin : LstL w (lisF (lisP (cloQ zs) r) (cloQ zs) l M (k + 1)) (.slice Ao L0.length co) wq := by
                  rw [hf]; exact ⟨Ao, co, vo, rfl, HOO2.out.1.same bq, HOO2.out.2.1.same bq, below_then HOO2.out.2.2 bq⟩
                first | exact ⟨k + 1, by omega, by go_num, hfin⟩ | ((repeat apply Exists.intro); exact ⟨⟨k + 1, by omega, by go_num, hfin⟩, rfl⟩)
              case measure => simp [intOf]; omega
            | true =>
              have HB1 := Lib.hid (show badP (cloQ zs) l k = false by rw [HV.out]; rfl)
              go_wp2_with fail
              refine (wpIn_wide (n := 5)).1 ?_
              refine region_qtail 27 (by kernel_rfl) (by kernel_rfl) ?_
              simp only [List.take_succ_cons, List.take_zero, List.drop_succ_cons, List.drop_zero]
              repeat (quiet_step_in (with_reducible exact cF _ _ _))
              refine wpQuietIn_nil ?_
              intro _ hw'
              obtain ⟨⟨dq, osq⟩, hw''⟩ := hw'
              subst hw''
              have bq := below_regrown w2 dq osq
              generalize Go.Sort.grow (redrawn w2 dq) osq = wq at bq ⊢
              gi_wp2_with fail
              clear z0 z1 y0 y1 y2 y3 y4 cF
              have HBq := Lib.hid (below_then HB3.out bq)
              have hoq := HOO.out.1.same (below_then b2 bq)
              have hrq := HOO.out.2.1.same (below_then b2 bq)
              have HOQ := Lib.hid (And.intro hoq hrq)
              have hl2 : Rd (wq.alloc (.cells #[] 3)) A1 n1 l := (HL.out.same HBq.out).al _
              have he2 : Own (wq.alloc (.cells #[] 3)) wq.heap.size (some ⟨wq.heap.size, 0, none⟩) 0 0 [] := Own.lit wq (Nat.le_refl _) [] (by simp)
              have HE2 := Lib.hid (And.intro he2 hl2)
              have hszq := HBq.out.size
              have v1 : IntKind.i64.wrap ((k : Int) + 1) = (k : Int) + 1 := wrap_is rfl (by omega) (by omega)
              clear he2 hl2 hoq hrq bq b2
              go_wp2_with (first
                | (at_builtin; refine wpList_app rfl (.tmp 79) (.tmp 80) rfl rfl HE2.out.1 rfl HE2.out.2 (by omega) (by simp) ?_; intro A6 c6 W6 ho6 hg6; have hb6 := app_mark (below_alloc (Below.refl wq.heap.size wq) (.cells #[] 3)) HE2.out.1 (Nat.le_refl _) hg6; simp only [Nat.zero_add, List.nil_append] at ho6; have HO6 := Lib.hid ho6; have HB6 := Lib.hid hb6; have hsz6 := hb6.size; clear ho6 hb6 hg6)
                | (at_builtin; refine wpList_app rfl (.tmp 81) (.tmp 83) rfl rfl (HO6.out.al (.cells #[.int .i64 (k : Int)] 3)) rfl (rd_one W6 (k : Int)) (by omega) (by simp; omega) ?_; intro A7 c7 W7 ho7 hg7; have hb7 := app_mark (below_alloc HB6.out (.cells #[.int .i64 (k : Int)] 3)) (HO6.out.al (.cells #[.int .i64 (k : Int)] 3)) (Nat.le_refl _) hg7; have HO7 := Lib.hid ho7; have HB7 := Lib.hid hb7; clear ho7 hb7 hg7))
              all_goals
                have hM2 : (max M (k + 1) = M ∧ k + 1 ≤ M) ∨ (max M (k + 1) = k + 1 ∧ M < k + 1) := by omega
                obtain ⟨M2, eM2, eM3⟩ : ∃ M2 : Nat, M2 = max M (k + 1) ∧ M2 ≤ n1 + 1 := ⟨_, rfl, by omega⟩
                have eC : ∀ z : Int, z = (M2 : Int) → Calls Try.prog 74 #[.slice (some ⟨b, off, none⟩) n c, .slice A7 (n1 + 1) c7, .int .i64 z] W7 (GotL W7 (lisP (cloQ zs) r (l ++ [(k : Int)]) M2)) := fun z hz => by rw [hz]; exact HC.out A7 c7 M2 W7 (below_then HBq.out HB7.out) eM3 HO7.out.rd
                refine (eC _ (by omega)).mono ?_
                rintro e w8 ⟨A8, c8, vs8, rfl, o8, r8, b8⟩
                have hF2 := HF.out
                rw [HB1.out, if_neg Bool.false_ne_true, ← eM2] at hF2
                have HF2 := Lib.hid hF2
                clear hM2 eM2 eC hF2
                have bq8 := below_then HB7.out b8
                have hw8 : w.heap.size ≤ W7.heap.size := Nat.le_trans HBq.out.size HB7.out.size
                have O8 := Lib.hid (OwnW.src o8)
                have R8 := Lib.hid (r8.lower hw8)
                have OQ := Lib.hid (And.intro (HOQ.out.1.same bq8) (HOQ.out.2.same bq8))
                have BQ := Lib.hid (below_then HBq.out bq8)
                have hf1 := lis_bd (Q := cloQ zs) r (l ++ [(k : Int)]) M2
                have hf2 := bdL_few r (by omega) M2 (by omega) (by omega)
                clear o8 r8 b8 bq8
                generalize hN8 : lisP (cloQ zs) r (l ++ [(k : Int)]) M2 = N8 at *
                go_wp2_with (at_builtin; refine wpList_appW rfl (.tmp 77) (.tmp 89) rfl rfl OQ.out.1 rfl O8.out (by omega) BQ.out.size ?_; intro A5 c5 W5 ho5 hg5)
                have hb5 := app_markW BQ.out OQ.out.1 (Nat.le_refl _) hg5
                have hr5 := (OQ.out.2.app OQ.out.1 hg5).cat (R8.out.app OQ.out.1 hg5)
                go_roundw
                case rel =>
                  have hfin : LstL w (lisF (lisP (cloQ zs) r) (cloQ zs) l M (k + 1)) (.slice A5 (L0.length + N8.length) c5) W5 := by
                    rw [HF2.out]; exact ⟨A5, c5, vo ++ vs8, by rw [List.length_append], by rw [List.length_append]; exact ho5, hr5, hb5⟩
                  first | exact ⟨k + 1, by omega, by go_num, hfin⟩ | ((repeat apply Exists.intro); exact ⟨⟨k + 1, by omega, by go_num, hfin⟩, rfl⟩)
                case measure => simp [intOf]; omega
          · have HB1 := Lib.hid (show badP (cloQ zs) l k = false by rw [HQ.out, show (L2.length == 3) = false by simpa using h3, show (L2.length == 2) = false by simpa using h2]; rfl)
            clear o2 hbad hq hmem
            generalize L2.length = q at *
            have hn3 : ((q : Int) == 3) = false := by simp; omega
            have hn2 : ((q : Int) == 2) = false := by simp; omega
            have hn3' : decide (q = 3) = false := by simpa using h3
            have hn2' : decide (q = 2) = false := by simpa using h2
            go_wp2_with fail
            refine wp_region_quiet_below (by kernel_rfl) (by kernel_rfl) ?_
            repeat (go_big_quiet_step (fail))
            refine wpQuiet_nil ?_
            intro _ hw'
            obtain ⟨⟨dq, osq⟩, hw''⟩ := hw'
            subst hw''
            have bq := below_regrown w2 dq osq
            generalize Go.Sort.grow (redrawn w2 dq) osq = wq at bq ⊢
            have HBq := Lib.hid (below_then HB3.out bq)
            have hoq := HOO.out.1.same (below_then b2 bq)
            have hrq := HOO.out.2.1.same (below_then b2 bq)
            have HOQ := Lib.hid (And.intro hoq hrq)
            have hl2 : Rd (wq.alloc (.cells #[] 3)) A1 n1 l := (HL.out.same HBq.out).al _
            have he2 : Own (wq.alloc (.cells #[] 3)) wq.heap.size (some ⟨wq.heap.size, 0, none⟩) 0 0 [] := Own.lit wq (Nat.le_refl _) [] (by simp)
            have HE2 := Lib.hid (And.intro he2 hl2)
            have hszq := HBq.out.size
            have v1 : IntKind.i64.wrap ((k : Int) + 1) = (k : Int) + 1 := wrap_is rfl (by omega) (by omega)
            clear he2 hl2 hoq hrq bq b2
            go_wp2_with (first
              | (at_builtin; refine wpList_app rfl (.tmp 79) (.tmp 80) rfl rfl HE2.out.1 rfl HE2.out.2 (by omega) (by simp) ?_; intro A6 c6 W6 ho6 hg6; have hb6 := app_mark (below_alloc (Below.refl wq.heap.size wq) (.cells #[] 3)) HE2.out.1 (Nat.le_refl _) hg6; simp only [Nat.zero_add, List.nil_append] at ho6; have HO6 := Lib.hid ho6; have HB6 := Lib.hid hb6; have hsz6 := hb6.size; clear ho6 hb6 hg6)
              | (at_builtin; refine wpList_app rfl (.tmp 81) (.tmp 83) rfl rfl (HO6.out.al (.cells #[.int .i64 (k : Int)] 3)) rfl (rd_one W6 (k : Int)) (by omega) (by simp; omega) ?_; intro A7 c7 W7 ho7 hg7; have hb7 := app_mark (below_alloc HB6.out (.cells #[.int .i64 (k : Int)] 3)) (HO6.out.al (.cells #[.int .i64 (k : Int)] 3)) (Nat.le_refl _) hg7; have HO7 := Lib.hid ho7; have HB7 := Lib.hid hb7; clear ho7 hb7 hg7))
            all_goals
              have hM2 : (max M (k + 1) = M ∧ k + 1 ≤ M) ∨ (max M (k + 1) = k + 1 ∧ M < k + 1) := by omega
              obtain ⟨M2, eM2, eM3⟩ : ∃ M2 : Nat, M2 = max M (k + 1) ∧ M2 ≤ n1 + 1 := ⟨_, rfl, by omega⟩
              have eC : ∀ z : Int, z = (M2 : Int) → Calls Try.prog 74 #[.slice A n c, .slice A7 (n1 + 1) c7, .int .i64 z] W7 (GotL W7 (lisP (cloQ zs) r (l ++ [(k : Int)]) M2)) := fun z hz => by rw [hz]; exact HC.out A7 c7 M2 W7 (below_then HBq.out HB7.out) eM3 HO7.out.rd
              refine (eC _ (by omega)).mono ?_
              rintro e w8 ⟨A8, c8, vs8, rfl, o8, r8, b8⟩
              have hF2 := HF.out
              rw [HB1.out, if_neg Bool.false_ne_true, ← eM2] at hF2
              have HF2 := Lib.hid hF2
              clear hM2 eM2 eC hF2
              have bq8 := below_then HB7.out b8
              have hw8 : w.heap.size ≤ W7.heap.size := Nat.le_trans HBq.out.size HB7.out.size
              have O8 := Lib.hid (OwnW.src o8)
              have R8 := Lib.hid (r8.lower hw8)
              have OQ := Lib.hid (And.intro (HOQ.out.1.same bq8) (HOQ.out.2.same bq8))
              have BQ := Lib.hid (below_then HBq.out bq8)
              have hf1 := lis_bd (Q := cloQ zs) r (l ++ [(k : Int)]) M2
              have hf2 := bdL_few r (by omega) M2 (by omega) (by omega)
              clear o8 r8 b8 bq8
              generalize hN8 : lisP (cloQ zs) r (l ++ [(k : Int)]) M2 = N8 at *
              go_wp2_with (at_builtin; refine wpList_appW rfl (.tmp 77) (.tmp 89) rfl rfl OQ.out.1 rfl O8.out (by omega) BQ.out.size ?_; intro A5 c5 W5 ho5 hg5)
              have hb5 := app_markW BQ.out OQ.out.1 (Nat.le_refl _) hg5
              have hr5 := (OQ.out.2.app OQ.out.1 hg5).cat (R8.out.app OQ.out.1 hg5)
              go_roundw
              case rel =>
                have hfin : LstL w (lisF (lisP (cloQ zs) r) (cloQ zs) l M (k + 1)) (.slice A5 (L0.length + N8.length) c5) W5 := by
                  rw [HF2.out]; exact ⟨A5, c5, vo ++ vs8, by rw [List.length_append], by rw [List.length_append]; exact ho5, hr5, hb5⟩
                first | exact ⟨k + 1, by omega, by go_num, hfin⟩ | ((repeat apply Exists.intro); exact ⟨⟨k + 1, by omega, by go_num, hfin⟩, rfl⟩)
              case measure => simp [intOf]; omega
      · obtain rfl : k = M + 1 := by omega
        have dk : decide ((((M + 1 : Nat)) : Int) ≤ (M : Int)) = false := by rw [decide_eq_false_iff_not]; omega
        have HL0 := Lib.hid (HP.out.trans (HL1.out rfl))
        go_wp2_with fail
        go_ret
        rw [HL0.out]
        exact ⟨Ao, co, vo, rfl, HOO.out.1, HOO.out.2.1, HOO.out.2.2⟩
end Go.Proofs.Ytiadnbdefcimiaa
