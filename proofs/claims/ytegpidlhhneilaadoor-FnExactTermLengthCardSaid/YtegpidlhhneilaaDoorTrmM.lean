/- The program's walkOf, shortWalkOf. -/
import Derived.Test.YtegpidlhhneilaaDoorTrmK
namespace Go.Proofs.YtegpidlhhneilaaDoor
open Go.RowKit Go.Sort Go.Lib
theorem glob_lt {w : World} {g : Nat} {v : Value} (h : w.cell? ⟨g, 0, none⟩ = some v) : g < w.heap.size := by
  rcases Nat.lt_or_ge g w.heap.size with h' | h'
  · exact h'
  · simp [World.cell?, Array.getElem?_eq_none h'] at h
theorem glob_below {w w' : World} {g : Nat} {v : Value} (h : w.cell? ⟨g, 0, none⟩ = some v) (b : Below w.heap.size w w') : w'.cell? ⟨g, 0, none⟩ = some v := (b.cell (p := ⟨g, 0, none⟩) (glob_lt h)).trans h
/-- What walkOf answers. -/
def noV (l : List UInt8) : Value := .iface 49 (.string (bsB l))
def wkV (l : List UInt8) : Value := match tmOf l with
  | some t => .tuple #[tmV t, .nilIface]
  | none => .tuple #[.nilIface, noV l]
set_option maxHeartbeats 1000000 in
set_option maxRecDepth 100000 in
theorem walkOf_any (l : List UInt8) (w : World) (hl : l.length ≤ 1048576) : Calls Tryd.prog 20 #[.string (bsB l)] w fun e w' => e = .returned (wkV l) ∧ Below w.heap.size w w' := by
  have hsz := bsB_size l
  have hTO : tmOf l = if 60 < l.length then none else match rdT 61 l with
    | some (t, []) => some t
    | _ => none := rfl
  by_cases hlen : 60 < l.length
  · rw [if_pos hlen] at hTO
    have HE := Lib.hid (show wkV l = .tuple #[.nilIface, noV l] by unfold wkV; rw [hTO])
    have d1 : decide ((60 : Int) < (l.length : Int)) = true := decide_eq_true (by omega)
    clear hTO
    go_enter Tryd.func20, Tryd.ntmps20
    go_wp2_with fail
    refine bodyPost_ret (results_tmp2 rfl _ _ _) rfl ?_
    exact ⟨by rw [HE.out]; rfl, Below.refl _ _⟩
  · rw [if_neg hlen] at hTO
    have d1 : decide ((60 : Int) < (l.length : Int)) = false := decide_eq_false (by omega)
    have HT := Lib.hid (fun W => readTerm_any 61 l W (by omega))
    cases hr : rdT 61 l with
    | none =>
      rw [hr] at HT hTO
      rw [rdV_none] at HT
      dsimp only at hTO
      have HE := Lib.hid (show wkV l = .tuple #[.nilIface, noV l] by unfold wkV; rw [hTO])
      clear hTO hr
      go_enter Tryd.func20, Tryd.ntmps20
      go_wp2_with fail
      refine (HT.out _).mono ?_
      rintro e w2 ⟨rfl, b2⟩
      go_wp2_with fail
      refine bodyPost_ret (results_tmp2 rfl _ _ _) rfl ?_
      exact ⟨by rw [HE.out]; rfl, b2⟩
    | some y =>
      obtain ⟨t, r⟩ := y
      rw [hr] at HT hTO
      rw [rdV_some] at HT
      obtain ⟨T1, x1, e1⟩ := tmV_iface t
      cases r with
      | nil =>
        dsimp only at hTO
        have HE := Lib.hid (show wkV l = .tuple #[tmV t, .nilIface] by unfold wkV; rw [hTO])
        have hE : (bsB []).toList.isEmpty = true := by rw [bsB_toList]; rfl
        rw [e1] at HT HE
        clear hTO hr e1
        go_enter Tryd.func20, Tryd.ntmps20
        go_wp2_with fail
        refine (HT.out _).mono ?_
        rintro e w2 ⟨rfl, b2⟩
        go_wp2_with fail
        refine bodyPost_ret (results_tmp2 rfl _ _ _) rfl ?_
        exact ⟨by rw [HE.out]; rfl, b2⟩
      | cons c r =>
        dsimp only at hTO
        have HE := Lib.hid (show wkV l = .tuple #[.nilIface, noV l] by unfold wkV; rw [hTO])
        have hE : (bsB (c :: r)).toList.isEmpty = false := by rw [bsB_toList]; rfl
        rw [e1] at HT
        clear hTO hr e1
        go_enter Tryd.func20, Tryd.ntmps20
        go_wp2_with fail
        refine (HT.out _).mono ?_
        rintro e w2 ⟨rfl, b2⟩
        go_wp2_with fail
        refine bodyPost_ret (results_tmp2 rfl _ _ _) rfl ?_
        exact ⟨by rw [HE.out]; rfl, b2⟩
/-- What shortWalkOf answers, errLong's value given. -/
def shV (x : Value) (l : List UInt8) : Value := match tmOf l with
  | some t => if lenT t ≤ 200 then .tuple #[tmV t, .nilIface] else .tuple #[.nilIface, x]
  | none => .tuple #[.nilIface, noV l]
set_option maxHeartbeats 1000000 in
set_option maxRecDepth 100000 in
theorem shortWalkOf_any (l : List UInt8) (T : TypeId) (p : Value) (w : World) (hl : l.length ≤ 1048576) (hg : w.cell? ⟨0, 0, none⟩ = some (.iface T p)) : Calls Tryd.prog 17 #[.string (bsB l)] w fun e w' => e = .returned (shV (.iface T p) l) ∧ Below w.heap.size w w' := by
  have HW := Lib.hid (fun W => walkOf_any l W hl)
  have hsz := bsB_size l
  cases ht : tmOf l with
  | none =>
    have HE := Lib.hid (show shV (.iface T p) l = .tuple #[.nilIface, noV l] by unfold shV; rw [ht])
    rw [show wkV l = .tuple #[.nilIface, noV l] by unfold wkV; rw [ht]] at HW
    unfold noV at HW HE
    clear hg ht
    go_enter Tryd.func17, Tryd.ntmps17
    go_wp2_with fail
    refine (HW.out _).mono ?_
    rintro e w2 ⟨rfl, b2⟩
    go_wp2_with fail
    refine bodyPost_ret (results_tmp2 rfl _ _ _) rfl ?_
    exact ⟨by rw [HE.out]; rfl, b2⟩
  | some t =>
    have hok := (tmOf_iff.1 ht).2.1
    have HN := Lib.hid (fun W => length_any t hok W)
    have hcap := cap_is (m := 201) (by omega) t hok
    rw [show wkV l = .tuple #[tmV t, .nilIface] by unfold wkV; rw [ht]] at HW
    have hm := meth_len t
    have hc := lenId_call t
    have HS := Lib.hid (show shV (.iface T p) l = if lenT t ≤ 200 then .tuple #[tmV t, .nilIface] else .tuple #[.nilIface, .iface T p] by unfold shV; rw [ht])
    rw [tmV_is] at HW HS
    generalize tyT t = T1 at *
    generalize rcV t = x1 at *
    generalize lenId t = fid at *
    generalize capT 201 t = k at *
    clear ht hok
    by_cases h2 : lenT t ≤ 200
    · rw [if_pos h2] at HS
      have d1 : decide ((200 : Int) < (k : Int)) = false := decide_eq_false (by omega)
      clear hcap hg
      go_enter Tryd.func17, Tryd.ntmps17
      go_wp2_with fail
      refine (HW.out _).mono ?_
      rintro e w2 ⟨rfl, b2⟩
      go_wp2_with fail
      refine (HN.out _).mono ?_
      rintro e w3 ⟨rfl, b3⟩
      go_wp2_with fail
      refine bodyPost_ret (results_tmp2 rfl _ _ _) rfl ?_
      exact ⟨by rw [HS.out]; rfl, b2.trans (b3.mono b2.size)⟩
    · rw [if_neg h2] at HS
      have d1 : decide ((200 : Int) < (k : Int)) = true := decide_eq_true (by omega)
      clear hcap
      go_enter Tryd.func17, Tryd.ntmps17
      go_wp2_with fail
      refine (HW.out _).mono ?_
      rintro e w2 ⟨rfl, b2⟩
      go_wp2_with fail
      refine (HN.out _).mono ?_
      rintro e w3 ⟨rfl, b3⟩
      have hg3 := glob_below hg (b2.trans (b3.mono b2.size))
      have bb := b2.trans (b3.mono b2.size)
      clear hg
      go_wp2_with fail
      go_region
      go_wp2_with fail
      refine bodyPost_ret (results_tmp2 rfl _ _ _) rfl ?_
      exact ⟨by rw [HS.out]; rfl, bb.drew⟩
end Go.Proofs.YtegpidlhhneilaaDoor
