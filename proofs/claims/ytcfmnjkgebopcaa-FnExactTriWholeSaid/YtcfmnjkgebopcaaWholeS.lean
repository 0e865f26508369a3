/- TriWhole of the specification. -/
import Derived.Test.YtcfmnjkgebopcaaSpecTri
import Derived.Test.YtcfmnjkgebopcaaWhole
import Derived.Test.YtcfmnjkgebopcaaWholeI
namespace Go.Proofs.Ytcfmnjkgebopcaa
open Go.RowKit Go.Sort

/-- append of one row, with where the new slice lies. -/
theorem wpList_appRowAt {ops : Array Oper} {rest : List Oper} {o : Oper} {a : Act} {Q : Exit → Act → World → Prop} {W : World} (hgd : o.guard = none) (s x : Operand)
    (ho : o.op = .call { callee := .builtin .append, args := #[s, x], argTypes := #[40, 40] })
    {B n c : Nat} {A : Option Addr} {gs : List Nat} {L : List T3} (hs : a.eval s = .slice A n c) (hown : OwnT W B A n c gs L) {b g c2 : Nat} {t : T3} (hx : a.eval x = .slice (some ⟨b, 0, none⟩) 1 c2) (hc : W.cell? ⟨b, 0, none⟩ = some (rowV g)) (ht : TripAt W g t) (hg : B ≤ g) (hni : g ∉ gs)
    (hn : n ≤ 1000000) (hB : B ≤ W.heap.size)
    (h : ∀ A' c' W', OwnT W' B A' (n + 1) c' (gs ++ [g]) (L ++ [t]) → W.grownBy W' (Value.slice A n c).ownBlock → ((Value.slice A' (n + 1) c').ownBlock = (Value.slice A n c).ownBlock ∨ (Value.slice A' (n + 1) c').ownBlock = some W.heap.size) → wpList Try.prog ops Q rest (a.put o.dst (.slice A' (n + 1) c')) W') : wpList Try.prog ops Q (o :: rest) a W := by
  obtain ⟨i0, hi, hz0, hz1, hz2⟩ := info_parts sliceInfo
  refine wpList_append_own_at W hgd s x 40 ho B 23 i0 (.slice none 0 0) 1 24 Try.underlying40 hi hz0 hz1 hz2 rfl (by decide) _ n (gs.map rowV) hs hown.row ⟨b, 0, none⟩ 1 c2 [rowV g] hx rfl (fun j u hu => ?_) (fun u hu => ?_) (by unfold maxLen; omega) (by omega) hB fun v' w' r1 g1 _ hloc => ?_
  · match j, hu with
    | 0, hu =>
      obtain rfl : rowV g = u := by simpa using hu
      simpa [Addr.add] using hc
  · obtain rfl : u = rowV g := by simpa using hu
    rfl
  · have hL := hown.n
    have hgl : gs.length = n := by rw [hown.len]; exact hL
    have e1 : gs.map rowV ++ [rowV g] = (gs ++ [g]).map rowV := by simp
    rw [e1] at r1
    obtain ⟨A', c', rfl⟩ : ∃ A' c', v' = .slice A' (n + 1) c' := by
      rcases r1.2 with ⟨_, e⟩ | ⟨g', cap, cur, e, _⟩
      · omega
      · exact ⟨_, _, e⟩
    refine h A' c' w' ⟨r1, by simp [hown.len], ?_, fun i hi => ?_⟩ g1 hloc
    · rw [List.nodup_append]
      exact ⟨hown.nodup, by simp, fun a ha b hb e => by
        obtain rfl : b = g := by simpa using hb
        subst e; exact hni ha⟩
    · by_cases hlt : i < n
      · have e2 : (gs ++ [g]).getD i 0 = gs.getD i 0 := by simp [List.getD_eq_getElem?_getD, List.getElem?_append_left (show i < gs.length by omega)]
        have e3 : (L ++ [t]).getD i t0 = L.getD i t0 := by simp [List.getD_eq_getElem?_getD, List.getElem?_append_left (show i < L.length by omega)]
        rw [e2, e3]
        obtain ⟨q1, q2⟩ := hown.rows i (by omega)
        exact ⟨q1, q2.kept g1 (hown.ne q2).symm⟩
      · obtain rfl : i = n := by simp at hi; omega
        have e2 : (gs ++ [g]).getD i 0 = g := by simp [List.getD_eq_getElem?_getD, ← hgl]
        have e3 : (L ++ [t]).getD i t0 = t := by simp [List.getD_eq_getElem?_getD, ← hL]
        rw [e2, e3]
        exact ⟨hg, ht.kept g1 (hown.ne ht).symm⟩

/-- What TriWhole's loop keeps: the rows of all triangles lie as they did, those with whole areas are listed so far. -/
def WhsR (w : World) (A1 : Option Addr) (n1 c1 : Nat) (gs : List Nat) (L : List T3) (k : Nat) (v : Value) (wr : World) : Prop :=
  ∃ A c hs, v = .slice A ((L.take k).filter wholeT).length c ∧ OwnT wr w.heap.size A1 n1 c1 gs L ∧ OwnT wr w.heap.size A ((L.take k).filter wholeT).length c hs ((L.take k).filter wholeT) ∧
    (∀ g ∈ hs, ∃ i, i < k ∧ g = gs.getD i 0) ∧ (∀ q, (Value.slice A ((L.take k).filter wholeT).length c).ownBlock = some q → (Value.slice A1 n1 c1).ownBlock ≠ some q) ∧ Below w.heap.size w wr
theorem WhsR.same {w wr w' : World} {A1 : Option Addr} {n1 c1 k : Nat} {gs : List Nat} {L : List T3} {v : Value} (h : WhsR w A1 n1 c1 gs L k v wr) (hb : Below wr.heap.size wr w') : WhsR w A1 n1 c1 gs L k v w' := by
  obtain ⟨A, c, hs, h1, h2, h3, h4, h5, h6⟩ := h
  exact ⟨A, c, hs, h1, h2.same hb, h3.same hb, h4, h5, below_then h6 hb⟩
theorem take_next {L : List T3} {k : Nat} (hk : k < L.length) : L.take (k + 1) = L.take k ++ [L.getD k t0] := by
  rw [List.take_succ_eq_append_getElem hk]
  simp [List.getD_eq_getElem?_getD, hk]
theorem filter_yes {L : List T3} {k : Nat} (hk : k < L.length) (h : wholeT (L.getD k t0) = true) : (L.take (k + 1)).filter wholeT = (L.take k).filter wholeT ++ [L.getD k t0] := by
  rw [take_next hk, List.filter_append, List.filter_cons_of_pos h, List.filter_nil]
theorem filter_no {L : List T3} {k : Nat} (hk : k < L.length) (h : wholeT (L.getD k t0) = false) : (L.take (k + 1)).filter wholeT = (L.take k).filter wholeT := by
  rw [take_next hk, List.filter_append, List.filter_cons_of_neg (by rw [h]; simp), List.filter_nil, List.append_nil]
theorem WhsR.skip {w wr : World} {A1 : Option Addr} {n1 c1 k : Nat} {gs : List Nat} {L : List T3} {v : Value} (h : WhsR w A1 n1 c1 gs L k v wr) (hk : k < L.length) (hw : wholeT (L.getD k t0) = false) : WhsR w A1 n1 c1 gs L (k + 1) v wr := by
  obtain ⟨A, c, hs, h1, h2, h3, h4, h5, h6⟩ := h
  unfold WhsR
  rw [filter_no hk hw]
  exact ⟨A, c, hs, h1, h2, h3, fun g hg => by obtain ⟨i, hi, e⟩ := h4 g hg; exact ⟨i, by omega, e⟩, h5, h6⟩
theorem WhsR.add {w W' : World} {A1 A' : Option Addr} {n1 c1 k c' : Nat} {gs hs : List Nat} {L : List T3} (hk : k < L.length) (hw : wholeT (L.getD k t0) = true)
    (h2 : OwnT W' w.heap.size A1 n1 c1 gs L) (h3 : OwnT W' w.heap.size A' (((L.take k).filter wholeT).length + 1) c' (hs ++ [gs.getD k 0]) ((L.take k).filter wholeT ++ [L.getD k t0])) (h4 : ∀ g ∈ hs, ∃ i, i < k ∧ g = gs.getD i 0)
    (h5 : ∀ q, (Value.slice A' (((L.take k).filter wholeT).length + 1) c').ownBlock = some q → (Value.slice A1 n1 c1).ownBlock ≠ some q) (h6 : Below w.heap.size w W') : WhsR w A1 n1 c1 gs L (k + 1) (.slice A' (((L.take k).filter wholeT).length + 1) c') W' := by
  unfold WhsR
  have e : ((L.take (k + 1)).filter wholeT).length = ((L.take k).filter wholeT).length + 1 := by rw [filter_yes hk hw]; simp
  rw [e, filter_yes hk hw]
  refine ⟨A', c', hs ++ [gs.getD k 0], rfl, h2, h3, fun g hg => ?_, h5, h6⟩
  rcases List.mem_append.1 hg with hg | hg
  · obtain ⟨i, hi, e⟩ := h4 g hg; exact ⟨i, by omega, e⟩
  · obtain rfl : g = gs.getD k 0 := by simpa using hg
    exact ⟨k, by omega, rfl⟩
theorem getD_inj {gs : List Nat} (hn : gs.Nodup) {i j : Nat} (hi : i < gs.length) (hj : j < gs.length) (h : gs.getD i 0 = gs.getD j 0) : i = j := by
  have e1 : gs.getD i 0 = gs[i] := by simp [List.getD_eq_getElem?_getD, hi]
  have e2 : gs.getD j 0 = gs[j] := by simp [List.getD_eq_getElem?_getD, hj]
  rw [e1, e2] at h
  exact (List.getElem_inj hn).1 h

set_option maxRecDepth 100000 in
set_option maxHeartbeats 4000000 in
theorem specTriWhole_any (p : Int) (w : World) : Calls Try.prog 82 #[.int .i64 p] w fun e w' => ∃ A c, e = .returned (.tuple #[.slice A (triWholeM p).length c, .bool (inB p 1 60)]) ∧ (∃ gs, OwnT w' w.heap.size A (triWholeM p).length c gs (triWholeM p)) ∧ Below w.heap.size w w' := by
  by_cases h : inB p 1 60 = true
  · have hp := h
    unfold inB at hp
    simp at hp
    have hL := fun W => l2All_any p W hp.1 hp.2
    have HG := Lib.hid (fun t => (mem_allP hp.2 (t := t)).1)
    have h100 : (allP p).length ≤ 100 := by
      have := len_inP (n := 60) hp.1 hp.2
      rw [inP_all hp.2] at this
      omega
    have HI := Lib.hid h
    rw [triWholeM_yes h, h]
    generalize allP p = L at *
    obtain ⟨n, hn⟩ : ∃ n, n = L.length := ⟨_, rfl⟩
    rw [← hn] at hL h100
    have hE := OwnT.empty w
    have hbE := below_alloc (Below.refl w.heap.size w) (.cells #[] 23)
    have HN := Lib.hid hn
    clear h hn
    go_enter Try.func82, Try.ntmps82
    go_wp2_with (go_at_call 121; refine (l6In_is HI.out _).mono ?_; rintro e w' ⟨rfl, rfl⟩)
    refine (hL _).mono ?_
    rintro e w2 ⟨A1, c1, rfl, ⟨gs, o1⟩, b1⟩
    have H0 : Hid (WhsR w A1 n c1 gs L 0 (.slice (some ⟨w.heap.size, 0, none⟩) 0 0) w2) := Lib.hid ⟨_, 0, [], rfl, o1.lower (by simp), hE.same b1, by simp, fun q hq => by
      simp [Value.ownBlock] at hq
      intro e
      have := (o1.row.lt q e).1
      simp at this
      omega, below_then hbE b1⟩
    clear o1 hL hE hbE b1
    go_wp2_with fail
    go_loopw [4, 6, 7, 8] (fun v i _ _ wr => ∃ k : Nat, k ≤ n ∧ i = .int .i64 k ∧ WhsR w A1 n c1 gs L k v wr) (fun _ i _ _ _ => n - (intOf i).toNat)
    case atStart => exact ⟨0, Nat.zero_le _, rfl, H0.out⟩
    case round =>
      obtain ⟨k, hk, rfl, hr⟩ := hrel
      clear H0
      by_cases hlt : k < n
      · have HR := Lib.hid hr
        obtain ⟨A, c, hs, rfl, q1, q2, q3, q4, q5⟩ := hr
        have hq1 := q1
        obtain ⟨g1, rfl⟩ : ∃ g, A1 = some ⟨g, 0, none⟩ := by
          rcases q1.row.2 with ⟨_, e⟩ | ⟨g, cap, cur, e, _⟩
          · omega
          · exact ⟨g, by injection e⟩
        have hcx : wr.cell? ⟨g1, k, none⟩ = some (rowV (gs.getD k 0)) := by
          rw [World.ownsRow.cellAt q1.row k (by omega), map_getD_rowV (by rw [q1.len, ← HN.out]; exact hlt)]
        have hT := q1.rows k (by rw [← HN.out]; exact hlt)
        have hT0 := HG.out (L.getD k t0) (by have := HN.out; rw [List.getD_eq_getElem?_getD, List.getElem?_eq_getElem (by omega)]; exact List.getElem_mem (by omega))
        obtain ⟨x, y, z, ht⟩ : ∃ x y z, L.getD k t0 = (x, y, z) := ⟨_, _, _, rfl⟩
        rw [ht] at hT hT0
        have hP := good_tri hT0
        have hbd := (area_bd hP).2.2
        obtain ⟨u0, u1, u2, _, _, _⟩ := three_cells hT.2
        obtain ⟨gk, hgk⟩ : ∃ g, g = gs.getD k 0 := ⟨_, rfl⟩
        rw [← hgk] at hcx hT u0 u1 u2
        have yc : ∀ d os, (grow (redrawn wr d) os).cell? ⟨g1, k, none⟩ = some (rowV gk) := fun d os => cell_regrown hcx d os
        have y0 : ∀ d os, (grow (redrawn wr d) os).cell? ⟨gk, 0, none⟩ = some (.int .i64 x) := fun d os => cell_regrown u0 d os
        have y1 : ∀ d os, (grow (redrawn wr d) os).cell? ⟨gk, 1, none⟩ = some (.int .i64 y) := fun d os => cell_regrown u1 d os
        have y2 : ∀ d os, (grow (redrawn wr d) os).cell? ⟨gk, 2, none⟩ = some (.int .i64 z) := fun d os => cell_regrown u2 d os
        have cA : ∀ d os, Calls Try.prog 134 #[.int .i64 x, .int .i64 y, .int .i64 z] (grow (redrawn wr d) os) fun e w'' => e = .returned (.int .i64 (areaM x y z)) ∧ ∃ p : Regrown, w'' = grow (redrawn wr p.d) p.os := fun d os =>
          Calls.regrown_of (keep_below (l2Area_any x y z _ hP))
        have HW := Lib.hid (show wholeT (L.getD k t0) = wholeB (areaM x y z) by rw [ht]; rfl)
        have HT := Lib.hid hT
        have HQ1 := Lib.hid q1
        have HQ2 := Lib.hid q2
        have HQ3 := Lib.hid q3
        have HQ4 := Lib.hid q4
        have HQ5 := Lib.hid q5
        have HGK := Lib.hid hgk
        have Hht := Lib.hid ht
        have hml : ((L.take k).filter wholeT).length ≤ 1000000 := by
          have h1 := List.length_filter_le wholeT (L.take k)
          have h2 := List.length_take_le k L
          omega
        generalize areaM x y z = N at *
        have HML := Lib.hid hml
        clear hcx hT hT0 u0 u1 u2 q1 q2 q3 q4 q5 hq1 hgk ht hP hml
        go_wp2_with fail
        refine wp_region_quiet_below (by kernel_rfl) (by kernel_rfl) ?_
        repeat (go_big_quiet_step (with_reducible exact cA _ _))
        refine wpQuiet_nil ?_
        intro _ hw'
        obtain ⟨⟨dq, osq⟩, hw''⟩ := hw'
        subst hw''
        have bq := below_regrown wr dq osq
        generalize Go.Sort.grow (redrawn wr dq) osq = wq at bq ⊢
        go_wp2_with fail
        refine (l2Root_any N _ hbd.1 hbd.2).mono ?_
        rintro e w3 ⟨⟨r, rfl, r0, r1, r2, r3⟩, rfl⟩
        have HWR := Lib.hid (whole_root r0 r2 r3)
        have v1 : IntKind.i64.wrap (r * r) = r * r := wrap_is rfl (by have := mul_bd (a := r) (b := r) (A := 1000000) (B := 1000000) r0 r1 r0 r1; omega) (by omega)
        clear r3 cA y0 y1 y2 yc
        by_cases e1 : r * r = N
        · have d1 : (r * r == N) = true := by simpa using e1
          by_cases e2 : r % 4 = 0
          · have d2 : (Int.tmod r 4 == 0) = true := by rw [Int.tmod_eq_emod_of_nonneg r0]; simpa using e2
            have d2' : (r % 4 == 0) = true := by simpa using e2
            have hw : wholeT (L.getD k t0) = true := by rw [HW.out, HWR.out, decide_eq_true e1, decide_eq_true e2]; rfl
            have Hw := Lib.hid hw
            have o1 := HQ1.out.same bq
            have hcx : wq.cell? ⟨g1, k, none⟩ = some (rowV gk) := by
              rw [World.ownsRow.cellAt o1.row k (by omega), map_getD_rowV (by rw [o1.len, ← HN.out]; omega), ← HGK.out]
            have o2 := (HQ2.out.same bq).al (.cells #[rowV gk] 23)
            have o1a := o1.al (.cells #[rowV gk] 23)
            have tk := (HT.out.2.kept (grown_of_below bq) (by simp)).kept (World.grownBy_alloc wq (.cells #[rowV gk] 23) none) (by simp)
            have bx := box_cell wq gk
            have hge := HT.out.1
            have hni : gk ∉ hs := fun hm => by
              obtain ⟨i, hi, e⟩ := HQ3.out gk hm
              rw [HGK.out] at e
              have := getD_inj o1.nodup (by rw [o1.len, ← HN.out]; omega) (by rw [o1.len, ← HN.out]; omega) e
              omega
            have bw := below_alloc (below_then HQ5.out bq) (.cells #[rowV gk] 23)
            have HO1 := Lib.hid o1a
            clear e1 e2 hw o1 o1a r2
            go_wp2_with (at_builtin; refine wpList_appRowAt rfl _ _ rfl rfl o2 rfl bx tk hge hni HML.out bw.size ?_; intro A' c' W' o' g' loc)
            have hne : ∀ q, (Value.slice A ((L.take k).filter wholeT).length c).ownBlock = some q → (Value.slice (some ⟨g1, 0, none⟩) n c1).ownBlock ≠ some q := HQ4.out
            have HADD : Hid (WhsR w (some ⟨g1, 0, none⟩) n c1 gs L (k + 1) (.slice A' (((L.take k).filter wholeT).length + 1) c') W') := Lib.hid (by
              rw [HGK.out, ← Hht.out] at o'
              refine WhsR.add (by rw [← HN.out]; exact hlt) Hw.out ⟨HO1.out.row.kept g' (.inr ?_), HO1.out.len, HO1.out.nodup, fun i hi => ⟨(HO1.out.rows i hi).1, (HO1.out.rows i hi).2.kept g' (o2.ne (HO1.out.rows i hi).2).symm⟩⟩ o' HQ3.out (fun q hq => ?_) (own_mark bw o2 g')
              · intro e
                exact hne g1 e.symm rfl
              · rcases loc with loc | loc
                · exact hne q (loc ▸ hq)
                · rw [loc] at hq
                  intro e
                  have := (HO1.out.row.lt q e).2
                  rw [World.size_alloc] at this
                  simp at hq
                  omega)
            go_roundw
            case rel => exact ⟨k + 1, by omega, by go_num, HADD.out⟩
            case measure => simp [intOf]; omega
          · have d2 : (Int.tmod r 4 == 0) = false := by rw [Int.tmod_eq_emod_of_nonneg r0]; simpa using e2
            have d2' : (r % 4 == 0) = false := by simpa using e2
            have HS := Lib.hid ((HR.out.same bq).skip (by rw [← HN.out]; exact hlt) (by rw [HW.out, HWR.out, decide_eq_false e2, Bool.and_false]))
            clear e1 e2 r2
            go_wp2_with fail
            go_roundw
            case rel => exact ⟨k + 1, by omega, by go_num, HS.out⟩
            case measure => simp [intOf]; omega
        · have d1 : (r * r == N) = false := by simpa using e1
          have HS := Lib.hid ((HR.out.same bq).skip (by rw [← HN.out]; exact hlt) (by rw [HW.out, HWR.out, decide_eq_false e1, Bool.false_and]))
          clear e1 r2
          go_wp2_with fail
          go_roundw
          case rel => exact ⟨k + 1, by omega, by go_num, HS.out⟩
          case measure => simp [intOf]; omega
      · obtain rfl : k = n := by omega
        obtain ⟨A, c, hs, rfl, q1, q2, q3, q4, q5⟩ := hr
        have e : L.take k = L := by rw [HN.out]; exact List.take_length
        rw [e] at q2 ⊢
        have HQ := Lib.hid q2
        clear q1 q2 q3 q4 e
        go_wp2_with fail
        go_ret2
        exact ⟨A, c, rfl, ⟨hs, HQ.out⟩, q5⟩
  · rw [Bool.not_eq_true] at h
    have HI := Lib.hid h
    rw [triWholeM_no h, h]
    clear h
    go_enter Try.func82, Try.ntmps82
    go_wp2_with (go_at_call 121; refine (l6In_is HI.out _).mono ?_; rintro e w' ⟨rfl, rfl⟩)
    go_ret2
    exact ⟨_, 0, rfl, ⟨[], OwnT.empty w⟩, below_alloc (Below.refl _ _) _⟩
end Go.Proofs.Ytcfmnjkgebopcaa
