/- The program's reading of terms: readTerm, readJoined, readTermAnd. -/
import Derived.Test.YtegpidlhhneilaaDoorTrmP
import Derived.Test.YtegpidlhhneilaaDoorKit
import Derived.Test.YtegpidlhhneilaaDoorShelf
import Derived.WalkSpells
import Derived.WalkLawsBesides
namespace Go.Proofs.YtegpidlhhneilaaDoor
open Go.RowKit

/-- A text as bytes. -/
def bsB (l : List UInt8) : ByteArray := ⟨l.toArray⟩
theorem bsB_size (l : List UInt8) : (bsB l).size = l.length := by simp [bsB, ByteArray.size]
theorem bsB_data (l : List UInt8) : (bsB l).data.toList = l := by simp [bsB]
theorem bsB_toList (l : List UInt8) : (bsB l).toList = l := by
  exact ByteArray.toList_mk l
theorem bsB_of (s : ByteArray) : s = bsB s.data.toList := by simp [bsB]
theorem bsB_nil : bsB [] = ⟨#[]⟩ := rfl
theorem bsB_drop (c : UInt8) (r : List UInt8) : (bsB (c :: r)).extract 1 (r.length + 1) = bsB r := by
  apply ByteArray.ext
  simp [bsB, ByteArray.data_extract]
theorem bsB_get (c : UInt8) (r : List UInt8) (h : 0 < (bsB (c :: r)).size) : (bsB (c :: r))[0] = c := rfl
/-- A walk as the program's value. -/
def tmV : Tm → Value
  | .l k => .iface 53 (.int .i64 k)
  | .b t => .iface 55 (.agg #[tmV t])
  | .u t => .iface 56 (.agg #[tmV t])
  | .r d t => .iface 58 (.agg #[.int .i64 d, tmV t])
  | .j a c => .iface 61 (.agg #[tmV a, tmV c])
theorem tmV_iface (t : Tm) : ∃ T x, tmV t = .iface T x := by cases t <;> exact ⟨_, _, rfl⟩
/-- What is read, as the program tells it. -/
def rdV : Option (Tm × List UInt8) → Value
  | none => .tuple #[.nilIface, .string ⟨#[]⟩, .bool false]
  | some (t, r) => .tuple #[tmV t, .string (bsB r), .bool true]
theorem idx_let (c : UInt8) : Lib.indexByte [101, 110, 119, 115] c = match letK c with
  | some k => (k : Int)
  | none => -1 := by
  unfold letK
  by_cases h0 : c = 101
  · subst h0; decide
  · by_cases h1 : c = 110
    · subst h1; decide
    · by_cases h2 : c = 119
      · subst h2; decide
      · by_cases h3 : c = 115
        · subst h3; decide
        · rw [if_neg h0, if_neg h1, if_neg h2, if_neg h3]
          have e0 : ¬ (101 : UInt8) = c := fun e => h0 e.symm
          have e1 : ¬ (110 : UInt8) = c := fun e => h1 e.symm
          have e2 : ¬ (119 : UInt8) = c := fun e => h2 e.symm
          have e3 : ¬ (115 : UInt8) = c := fun e => h3 e.symm
          simp [Lib.indexByte, e0, e1, e2, e3]
theorem pre_one (c m : UInt8) (r : List UInt8) : Lib.hasPrefix (c :: r) [m] = decide (c = m) := by
  unfold Lib.hasPrefix
  by_cases h : c = m
  · subst h; simp
  · have : ¬ m = c := fun e => h e.symm
    simp [List.isPrefixOf, h, this]
set_option maxHeartbeats 2000000 in
theorem readTermAnd_of (x : Option (Tm × List UInt8)) (l : List UInt8) (m : UInt8) (h : ∀ w, Calls Tryd.prog 22 #[.string (bsB l)] w fun e w' => e = .returned (rdV x) ∧ Below w.heap.size w w') (w : World) :
    Calls Tryd.prog 26 #[.string (bsB l), .string ⟨#[m]⟩] w fun e w' => e = .returned (rdV (rdAnd x m)) ∧ Below w.heap.size w w' := by
  have H := Lib.hid (h w)
  clear h
  have HP := fun (r : List UInt8) (W : World) => Tryd.strings_HasPrefix (bsB r) ⟨#[m]⟩ W
  cases x with
  | none =>
    clear HP
    go_enter Tryd.func26, Tryd.ntmps26
    go_wp2_with fail
    refine H.out.mono ?_
    rintro e w2 ⟨rfl, b2⟩
    unfold rdV
    go_wp2_with fail
    refine bodyPost_ret (results_tmp3 rfl _ _ _) rfl ?_
    exact ⟨rfl, b2⟩
  | some y =>
    obtain ⟨t, r⟩ := y
    have HR := Lib.hid (show rdV (some (t, r)) = .tuple #[tmV t, .string (bsB r), .bool true] from rfl)
    have HR3 := Lib.hid (fun r => show rdV (some (t, r)) = .tuple #[tmV t, .string (bsB r), .bool true] from rfl)
    generalize tmV t = v at *
    cases r with
    | nil =>
      have HP0 := Lib.hid (HP [])
      clear HP
      go_enter Tryd.func26, Tryd.ntmps26
      go_wp2_with fail
      refine H.out.mono ?_
      rintro e w2 ⟨rfl, b2⟩
      rw [HR.out]
      go_wp2_with fail
      refine (HP0.out w2).mono ?_
      rintro e w3 ⟨rfl, rfl⟩
      go_wp2_with fail
      refine bodyPost_ret (results_tmp3 rfl _ _ _) rfl ?_
      exact ⟨rfl, b2⟩
    | cons c r =>
      have HP0 := Lib.hid (HP (c :: r))
      rw [bsB_data, show (ByteArray.mk #[m]).data.toList = [m] from rfl, pre_one] at HP0
      have hsz := bsB_size (c :: r)
      have hdr := bsB_drop c r
      rw [List.length_cons] at hsz
      have hm1 : (ByteArray.mk #[m]).size = 1 := rfl
      have g1 : (1 : Int) ≤ ((r.length + 1 : Nat) : Int) := by omega
      have HR2 := Lib.hid (HR3.out r)
      have HRA := Lib.hid (show rdAnd (some (t, c :: r)) m = if c = m then some (t, r) else none from rfl)
      clear HP
      by_cases hc : c = m
      · have HRY := Lib.hid (show rdV (rdAnd (some (t, c :: r)) m) = .tuple #[v, .string (bsB r), .bool true] by rw [HRA.out, if_pos hc]; exact HR2.out)
        rw [decide_eq_true hc] at HP0
        clear hc
        go_enter Tryd.func26, Tryd.ntmps26
        go_wp2_with fail
        refine H.out.mono ?_
        rintro e w2 ⟨rfl, b2⟩
        rw [HR.out]
        go_wp2_with fail
        refine (HP0.out w2).mono ?_
        rintro e w3 ⟨rfl, rfl⟩
        go_wp2_with fail
        go_region
        go_wp2_with fail
        refine bodyPost_ret (results_tmp3 rfl _ _ _) rfl ?_
        exact ⟨by rw [HRY.out]; rfl, b2.drew⟩
      · have HRN := Lib.hid (show rdV (rdAnd (some (t, c :: r)) m) = .tuple #[.nilIface, .string ⟨#[]⟩, .bool false] by rw [HRA.out, if_neg hc]; rfl)
        rw [decide_eq_false hc] at HP0
        go_enter Tryd.func26, Tryd.ntmps26
        go_wp2_with fail
        refine H.out.mono ?_
        rintro e w2 ⟨rfl, b2⟩
        rw [HR.out]
        go_wp2_with fail
        refine (HP0.out w2).mono ?_
        rintro e w3 ⟨rfl, rfl⟩
        go_wp2_with fail
        refine bodyPost_ret (results_tmp3 rfl _ _ _) rfl ?_
        exact ⟨by rw [HRN.out]; rfl, b2⟩
/-- A term of two terms, whose bracket is just ahead. -/
def jnT (f : Nat) (s : List UInt8) : Option (Tm × List UInt8) :=
  match rdAnd (rdT f s) 43 with
  | none => none
  | some (a, s2) =>
    match rdAnd (rdT f s2) 41 with
    | none => none
    | some (e, s4) => some (.j a e, s4)
theorem rdV_none : rdV none = .tuple #[.nilIface, .string ⟨#[]⟩, .bool false] := rfl
theorem rdV_some (t : Tm) (r : List UInt8) : rdV (some (t, r)) = .tuple #[tmV t, .string (bsB r), .bool true] := rfl
theorem and_len {x : Option (Tm × List UInt8)} {m : UInt8} {t : Tm} {r : List UInt8} {f : Nat} {s : List UInt8} (hx : x = rdT f s) (h : rdAnd x m = some (t, r)) : r.length < s.length := by
  have h1 := rdAnd_some h
  rw [hx] at h1
  have := rd_len h1
  simp only [List.length_cons] at this
  omega
set_option maxHeartbeats 2000000 in
theorem readJoined_of (f : Nat) (IH : ∀ (l : List UInt8) (w : World), l.length ≤ f → Calls Tryd.prog 22 #[.string (bsB l)] w fun e w' => e = .returned (rdV (rdT f l)) ∧ Below w.heap.size w w') (l : List UInt8) (hl : l.length ≤ f) (w : World) :
    Calls Tryd.prog 24 #[.string (bsB l)] w fun e w' => e = .returned (rdV (jnT f l)) ∧ Below w.heap.size w w' := by
  have H1 := Lib.hid (fun W => readTermAnd_of _ l 43 (fun w => IH l w hl) W)
  have HJ := Lib.hid (show jnT f l = match rdAnd (rdT f l) 43 with
    | none => none
    | some (a, s2) => match rdAnd (rdT f s2) 41 with
      | none => none
      | some (e, s4) => some (.j a e, s4) from rfl)
  cases h1 : rdAnd (rdT f l) 43 with
  | none =>
    rw [h1] at H1 HJ
    rw [rdV_none] at H1
    have HE := Lib.hid (show rdV (jnT f l) = _ from (by rw [HJ.out]))
    clear IH hl HJ h1
    go_enter Tryd.func24, Tryd.ntmps24
    go_wp2_with fail
    refine (H1.out w).mono ?_
    rintro e w2 ⟨rfl, b2⟩
    go_wp2_with fail
    refine bodyPost_ret (results_tmp3 rfl _ _ _) rfl ?_
    exact ⟨by rw [HE.out]; rfl, b2⟩
  | some y =>
    obtain ⟨a, s2⟩ := y
    have hs2 := and_len rfl h1
    have H2 := Lib.hid (fun W => readTermAnd_of _ s2 41 (fun w => IH s2 w (by omega)) W)
    rw [h1] at H1 HJ
    rw [rdV_some] at H1
    dsimp only at HJ
    cases h2 : rdAnd (rdT f s2) 41 with
    | none =>
      rw [h2] at H2 HJ
      rw [rdV_none] at H2
      have HE := Lib.hid (show rdV (jnT f l) = _ from (by rw [HJ.out]))
      generalize tmV a = v at *
      clear IH hl HJ h1 h2 hs2
      go_enter Tryd.func24, Tryd.ntmps24
      go_wp2_with fail
      refine (H1.out w).mono ?_
      rintro e w2 ⟨rfl, b2⟩
      go_wp2_with fail
      refine (H2.out w2).mono ?_
      rintro e w3 ⟨rfl, b3⟩
      go_wp2_with fail
      refine bodyPost_ret (results_tmp3 rfl _ _ _) rfl ?_
      exact ⟨by rw [HE.out]; rfl, b2.trans (b3.mono b2.size)⟩
    | some y =>
      obtain ⟨e, s4⟩ := y
      rw [h2] at H2 HJ
      rw [rdV_some] at H2
      dsimp only at HJ
      have HE := Lib.hid (show rdV (jnT f l) = .tuple #[.iface 61 (.agg #[tmV a, tmV e]), .string (bsB s4), .bool true] by rw [HJ.out]; rfl)
      obtain ⟨T1, x1, e1⟩ := tmV_iface a
      obtain ⟨T2, x2, e2⟩ := tmV_iface e
      rw [e1] at H1 HE
      rw [e2] at H2 HE
      clear e1 e2
      clear IH hl HJ h1 h2 hs2
      go_enter Tryd.func24, Tryd.ntmps24
      go_wp2_with fail
      refine (H1.out w).mono ?_
      rintro e w2 ⟨rfl, b2⟩
      go_wp2_with fail
      refine (H2.out w2).mono ?_
      rintro e w3 ⟨rfl, b3⟩
      go_wp2_with fail
      refine bodyPost_ret (results_tmp3 rfl _ _ _) rfl ?_
      exact ⟨by rw [HE.out]; rfl, b2.trans (b3.mono b2.size)⟩

theorem rdT_cons (f : Nat) (c : UInt8) (s : List UInt8) : rdT (f + 1) (c :: s) = match letK c with
    | some k => some (.l k, s)
    | none => if c = 40 then jnT f s else match rdT f s with
      | none => none
      | some (t, s2) => match sgnT c t with
        | none => none
        | some t2 => some (t2, s2) := by
  rw [rdT]
  cases letK c with
  | some k => rfl
  | none =>
    dsimp only
    by_cases h : c = 40
    · rw [if_pos h, if_pos h]; rfl
    · rw [if_neg h, if_neg h]; rfl
theorem u8_ne {c : UInt8} {k : Nat} (_ : k < 256) (h : c ≠ UInt8.ofNat k) : ((c.toNat : Int) == (k : Int)) = false := by
  have : c.toNat ≠ k := fun e => h (by rw [← e]; simp)
  simp; omega
set_option maxRecDepth 100000 in
set_option maxHeartbeats 8000000 in
theorem readTerm_any : ∀ (f : Nat) (l : List UInt8) (w : World), l.length ≤ f →
    Calls Tryd.prog 22 #[.string (bsB l)] w fun e w' => e = .returned (rdV (rdT f l)) ∧ Below w.heap.size w w' := by
  intro f
  induction f with
  | zero =>
    intro l w hl
    obtain rfl : l = [] := List.length_eq_zero_iff.1 (by omega)
    have HE := Lib.hid (show rdV (rdT 0 []) = .tuple #[.nilIface, .string ⟨#[]⟩, .bool false] from rfl)
    have hE : (bsB []).toList.isEmpty = true := by rw [bsB_toList]; rfl
    go_enter Tryd.func22, Tryd.ntmps22
    go_wp2_with fail
    refine bodyPost_ret (results_tmp3 rfl _ _ _) rfl ?_
    exact ⟨by rw [HE.out]; rfl, Below.refl _ _⟩
  | succ f ih =>
    intro l w hl
    cases l with
    | nil =>
      have HE := Lib.hid (show rdV (rdT (f + 1) []) = .tuple #[.nilIface, .string ⟨#[]⟩, .bool false] from rfl)
      have hE : (bsB []).toList.isEmpty = true := by rw [bsB_toList]; rfl
      go_enter Tryd.func22, Tryd.ntmps22
      go_wp2_with fail
      refine bodyPost_ret (results_tmp3 rfl _ _ _) rfl ?_
      exact ⟨by rw [HE.out]; rfl, Below.refl _ _⟩
    | cons c s =>
      have hls : s.length ≤ f := by simpa using hl
      have IH := Lib.hid ih
      have HT := Lib.hid (fun W => ih s W hls)
      have HJ := Lib.hid (fun W => readJoined_of f ih s hls W)
      have HX := Lib.hid (fun (W : World) => Tryd.strings_IndexByte ⟨#[101, 110, 119, 115]⟩ (c.toNat : Int) W)
      rw [show (ByteArray.mk #[101, 110, 119, 115]).data.toList = [101, 110, 119, 115] from rfl, show ((c.toNat : Int)).toNat.toUInt8 = c by simp, idx_let] at HX
      have HC := Lib.hid (rdT_cons f c s)
      have hsz := bsB_size (c :: s)
      have hdr := bsB_drop c s
      rw [List.length_cons] at hsz
      have htl := bsB_toList (c :: s)
      have hE : (bsB (c :: s)).toList.isEmpty = false := by rw [bsB_toList]; rfl
      obtain ⟨z, ez⟩ : ∃ z : Int, z = (c.toNat : Int) := ⟨_, rfl⟩
      have hget : ∀ h, (((bsB (c :: s))[0]'h).toNat : Int) = z := fun h => by rw [bsB_get]; exact ez.symm
      rw [← ez] at HX
      have EZ := Lib.hid ez
      clear ez
      have g1 : (1 : Int) ≤ ((s.length + 1 : Nat) : Int) := by omega
      have g0 : (0 : Int) < ((s.length + 1 : Nat) : Int) := by omega
      clear hl hls ih
      cases hk : letK c with
      | some k =>
        have hk4 := (letK_some hk).1
        rw [hk] at HX HC
        dsimp only at HX HC
        have HE := Lib.hid (show rdV (rdT (f + 1) (c :: s)) = .tuple #[.iface 53 (.int .i64 k), .string (bsB s), .bool true] by rw [HC.out]; rfl)
        have d1 : decide ((0 : Int) ≤ (k : Int)) = true := decide_eq_true (by omega)
        clear hk HT HJ IH HC
        go_enter Tryd.func22, Tryd.ntmps22
        go_wp2_with fail
        go_region
        go_wp2_with fail
        refine (HX.out _).mono ?_
        rintro e w3 ⟨rfl, rfl⟩
        have bd : Below w.heap.size w w.drew := (Below.refl _ _).drew
        go_wp2_with fail
        refine bodyPost_ret (results_tmp3 rfl _ _ _) rfl ?_
        exact ⟨by rw [HE.out]; rfl, bd⟩
      | none =>
        rw [hk] at HX HC
        dsimp only at HX HC
        by_cases h40 : c = 40
        · rw [if_pos h40] at HC
          have n40 : z = 40 := by rw [EZ.out, h40]; rfl
          subst n40
          subst h40
          rw [← HC.out] at HJ
          obtain ⟨v1, v2, v3, ev⟩ : ∃ v1 v2 v3, rdV (rdT (f + 1) (40 :: s)) = .tuple #[v1, v2, v3] := by
            cases rdT (f + 1) (40 :: s) with
            | none => exact ⟨_, _, _, rfl⟩
            | some y => exact ⟨_, _, _, rfl⟩
          rw [ev] at HJ ⊢
          clear hk HT IH HC ev
          go_enter Tryd.func22, Tryd.ntmps22
          go_wp2_with fail
          go_region
          go_wp2_with fail
          refine (HX.out _).mono ?_
          rintro e w3 ⟨rfl, rfl⟩
          have bd : Below w.heap.size w w.drew := (Below.refl _ _).drew
          go_wp2_with fail
          refine (HJ.out w.drew).mono ?_
          rintro e w4 ⟨rfl, b4⟩
          go_wp2_with fail
          refine bodyPost_ret (results_tmp3 rfl _ _ _) rfl ?_
          exact ⟨rfl, bd.trans (b4.mono bd.size)⟩
        · rw [if_neg h40] at HC
          have n40 : (z == 40) = false := by rw [EZ.out]; exact u8_ne (k := 40) (by omega) h40
          cases hr : rdT f s with
          | none =>
            rw [hr] at HT HC
            rw [rdV_none] at HT
            dsimp only at HC
            have HE := Lib.hid (show rdV (rdT (f + 1) (c :: s)) = .tuple #[.nilIface, .string ⟨#[]⟩, .bool false] by rw [HC.out]; rfl)
            clear hk HJ IH HC hr h40
            go_enter Tryd.func22, Tryd.ntmps22
            go_wp2_with fail
            go_region
            go_wp2_with fail
            refine (HX.out _).mono ?_
            rintro e w3 ⟨rfl, rfl⟩
            have bd : Below w.heap.size w w.drew := (Below.refl _ _).drew
            go_wp2_with fail
            refine (HT.out w.drew).mono ?_
            rintro e w4 ⟨rfl, b4⟩
            go_wp2_with fail
            refine bodyPost_ret (results_tmp3 rfl _ _ _) rfl ?_
            exact ⟨by rw [HE.out]; rfl, bd.trans (b4.mono bd.size)⟩
          | some y =>
            obtain ⟨t, s2⟩ := y
            rw [hr] at HT HC
            rw [rdV_some] at HT
            dsimp only at HC
            obtain ⟨T1, x1, e1⟩ := tmV_iface t
            by_cases h45 : c = 45
            · have HE := Lib.hid (show rdV (rdT (f + 1) (c :: s)) = .tuple #[.iface 55 (.agg #[tmV t]), .string (bsB s2), .bool true] by rw [HC.out, h45]; rfl)
              have n45 : z = 45 := by rw [EZ.out, h45]; rfl
              rw [e1] at HT HE
              subst n45
              clear hk HJ IH HC hr h40 e1 h45 n40
              go_enter Tryd.func22, Tryd.ntmps22
              go_wp2_with fail
              go_region
              go_wp2_with fail
              refine (HX.out _).mono ?_
              rintro e w3 ⟨rfl, rfl⟩
              have bd : Below w.heap.size w w.drew := (Below.refl _ _).drew
              go_wp2_with fail
              refine (HT.out w.drew).mono ?_
              rintro e w4 ⟨rfl, b4⟩
              go_wp2_with fail
              refine bodyPost_ret (results_tmp3 rfl _ _ _) rfl ?_
              exact ⟨by rw [HE.out]; rfl, bd.trans (b4.mono bd.size)⟩
            · have n45 : (z == 45) = false := by rw [EZ.out]; exact u8_ne (k := 45) (by omega) h45
              by_cases h64 : c = 64
              · have HE := Lib.hid (show rdV (rdT (f + 1) (c :: s)) = .tuple #[.iface 56 (.agg #[tmV t]), .string (bsB s2), .bool true] by rw [HC.out, h64]; rfl)
                have n64 : z = 64 := by rw [EZ.out, h64]; rfl
                rw [e1] at HT HE
                subst n64
                clear hk HJ IH HC hr h40 e1 h45 n40 n45 h64
                go_enter Tryd.func22, Tryd.ntmps22
                go_wp2_with fail
                go_region
                go_wp2_with fail
                refine (HX.out _).mono ?_
                rintro e w3 ⟨rfl, rfl⟩
                have bd : Below w.heap.size w w.drew := (Below.refl _ _).drew
                go_wp2_with fail
                refine (HT.out w.drew).mono ?_
                rintro e w4 ⟨rfl, b4⟩
                go_wp2_with fail
                refine bodyPost_ret (results_tmp3 rfl _ _ _) rfl ?_
                exact ⟨by rw [HE.out]; rfl, bd.trans (b4.mono bd.size)⟩
              · have n64 : (z == 64) = false := by rw [EZ.out]; exact u8_ne (k := 64) (by omega) h64
                have hsg : sgnT c t = if 50 ≤ c ∧ c ≤ 57 then some (.r (c.toNat - 48) t) else none := by unfold sgnT; rw [if_neg h45, if_neg h64]
                rw [hsg] at HC
                by_cases hd : 50 ≤ c ∧ c ≤ 57
                · rw [if_pos hd] at HC
                  dsimp only at HC
                  have hdn := digit_nat hd
                  obtain ⟨d, ed⟩ : ∃ d, d = c.toNat - 48 := ⟨_, rfl⟩
                  have HE := Lib.hid (show rdV (rdT (f + 1) (c :: s)) = .tuple #[.iface 58 (.agg #[.int .i64 d, tmV t]), .string (bsB s2), .bool true] by rw [HC.out, ed]; rfl)
                  have ez : z = (d : Int) + 48 := by rw [EZ.out]; omega
                  have hdb : 2 ≤ d ∧ d ≤ 9 := by omega
                  rw [e1] at HT HE
                  subst ez
                  have d1 : decide ((50 : Int) ≤ (d : Int) + 48) = true := decide_eq_true (by omega)
                  have d2 : decide ((d : Int) + 48 ≤ 57) = true := decide_eq_true (by omega)
                  have q1 : IntKind.u8.wrap (d : Int) = (d : Int) := by rw [IntKind.wrap_u8]; omega
                  have q2 : IntKind.i64.wrap (d : Int) = (d : Int) := wrap_is rfl (by omega) (by omega)
                  have q3 : (d : Int) + 48 - 48 = (d : Int) := by omega
                  clear hk HJ IH HC hr h40 e1 h45 h64 hsg hd hdn ed EZ
                  go_enter Tryd.func22, Tryd.ntmps22
                  go_wp2_with fail
                  go_region
                  go_wp2_with fail
                  refine (HX.out _).mono ?_
                  rintro e w3 ⟨rfl, rfl⟩
                  have bd : Below w.heap.size w w.drew := (Below.refl _ _).drew
                  go_wp2_with fail
                  refine (HT.out w.drew).mono ?_
                  rintro e w4 ⟨rfl, b4⟩
                  go_wp2_with fail
                  refine bodyPost_ret (results_tmp3 rfl _ _ _) rfl ?_
                  exact ⟨by rw [HE.out]; rfl, bd.trans (b4.mono bd.size)⟩
                · rw [if_neg hd] at HC
                  dsimp only at HC
                  have HE := Lib.hid (show rdV (rdT (f + 1) (c :: s)) = .tuple #[.nilIface, .string ⟨#[]⟩, .bool false] by rw [HC.out]; rfl)
                  have hz : z < 50 ∨ 57 < z := by
                    rw [EZ.out]
                    by_cases h1 : 50 ≤ c.toNat
                    · by_cases h2 : c.toNat ≤ 57
                      · exact absurd ⟨UInt8.le_iff_toNat_le.2 h1, UInt8.le_iff_toNat_le.2 h2⟩ hd
                      · right; omega
                    · left; omega
                  rw [e1] at HT
                  clear hk HJ IH HC hr h40 e1 h45 h64 hsg hd EZ
                  rcases hz with hz | hz
                  · have d1 : decide ((50 : Int) ≤ z) = false := decide_eq_false (by omega)
                    go_enter Tryd.func22, Tryd.ntmps22
                    go_wp2_with fail
                    go_region
                    go_wp2_with fail
                    refine (HX.out _).mono ?_
                    rintro e w3 ⟨rfl, rfl⟩
                    have bd : Below w.heap.size w w.drew := (Below.refl _ _).drew
                    go_wp2_with fail
                    refine (HT.out w.drew).mono ?_
                    rintro e w4 ⟨rfl, b4⟩
                    go_wp2_with fail
                    refine bodyPost_ret (results_tmp3 rfl _ _ _) rfl ?_
                    exact ⟨by rw [HE.out]; rfl, bd.trans (b4.mono bd.size)⟩
                  · have d1 : decide ((50 : Int) ≤ z) = true := decide_eq_true (by omega)
                    have d2 : decide (z ≤ 57) = false := decide_eq_false (by omega)
                    go_enter Tryd.func22, Tryd.ntmps22
                    go_wp2_with fail
                    go_region
                    go_wp2_with fail
                    refine (HX.out _).mono ?_
                    rintro e w3 ⟨rfl, rfl⟩
                    have bd : Below w.heap.size w w.drew := (Below.refl _ _).drew
                    go_wp2_with fail
                    refine (HT.out w.drew).mono ?_
                    rintro e w4 ⟨rfl, b4⟩
                    go_wp2_with fail
                    refine bodyPost_ret (results_tmp3 rfl _ _ _) rfl ?_
                    exact ⟨by rw [HE.out]; rfl, bd.trans (b4.mono bd.size)⟩
end Go.Proofs.YtegpidlhhneilaaDoor
