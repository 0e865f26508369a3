/- The model's turned paths. -/
import Derived.Test.YtiadnbdefcimiaaPathS
import Derived.Deep.RegionLaw
namespace Go.Proofs.Ytiadnbdefcimiaa
open Go.RowKit Go.Sort Go.Lib

theorem run_appRowM {W : World} {B n c : Nat} {A : Option Addr} {gs : List Nat} {L : List (List Int)} (hown : OwnM W B A n c gs L) {b g c2 : Nat} {r : List Int} (hc : W.cell? ⟨b, 0, none⟩ = some (rowW g r)) (ht : RowBlk W g r) (hg : B ≤ g) (hni : g ∉ gs)
    (hn : n ≤ 1000000) (hB : B ≤ W.heap.size) (ty : TypeId) :
    ∃ A' c' W', (Builtin.append_ #[60, 60] ty #[.slice A n c, .slice (some ⟨b, 0, none⟩) 1 c2]).run Try.prog W = .ok (.slice A' (n + 1) c') W' ∧ OwnM W' B A' (n + 1) c' (gs ++ [g]) (L ++ [r]) ∧ W.grownBy W' (Value.slice A n c).ownBlock := by
  obtain ⟨i0, hi, hz0, hz1, hz2⟩ := info_parts rowsInfo
  obtain ⟨v', w', hrun, r1, g1, _, _⟩ := Go.run_append_own_at (P := Try.prog) W B 60 ty 23 i0 (.slice none 0 0) 1 24 Try.underlying60 hi hz0 hz1 hz2 rfl (by decide) (.slice A n c) n ((gs.zip L).map fun p => rowW p.1 p.2) hown.row ⟨b, 0, none⟩ 1 c2 [rowW g r] rfl (fun j u hu => by
    match j, hu with
    | 0, hu =>
      obtain rfl : rowW g r = u := by simpa using hu
      simpa [Addr.add] using hc) (fun u hu => by
    obtain rfl : u = rowW g r := by simpa using hu
    rfl) (by unfold maxLen; omega) (by omega) hB
  have hL := hown.n
  have hgl : gs.length = n := by rw [hown.len]; exact hL
  have e1 : (gs.zip L).map (fun p => rowW p.1 p.2) ++ [rowW g r] = ((gs ++ [g]).zip (L ++ [r])).map fun p => rowW p.1 p.2 := by
    rw [List.zip_append hown.len, List.map_append]; rfl
  rw [e1] at r1
  obtain ⟨A', c', rfl⟩ : ∃ A' c', v' = .slice A' (n + 1) c' := by
    rcases r1.2 with ⟨_, e⟩ | ⟨g', cap, cur, e, _⟩
    · omega
    · exact ⟨_, _, e⟩
  refine ⟨A', c', w', hrun, ⟨r1, by simp [hown.len], ?_, fun i hi => ?_⟩, g1⟩
  · rw [List.nodup_append]
    exact ⟨hown.nodup, by simp, fun a ha b hb e => by
      obtain rfl : b = g := by simpa using hb
      subst e; exact hni ha⟩
  · by_cases hlt : i < n
    · have e2 : (gs ++ [g]).getD i 0 = gs.getD i 0 := by simp [List.getD_eq_getElem?_getD, List.getElem?_append_left (show i < gs.length by omega)]
      have e3 : rowL (L ++ [r]) i = rowL L i := by unfold rowL; simp [List.getD_eq_getElem?_getD, List.getElem?_append_left (show i < L.length by omega)]
      rw [e2, e3]
      obtain ⟨q1, q2⟩ := hown.rows i (by omega)
      exact ⟨q1, q2.kept g1 (hown.ne q2).symm⟩
    · obtain rfl : i = n := by simp at hi; omega
      have e2 : (gs ++ [g]).getD i 0 = g := by simp [List.getD_eq_getElem?_getD, ← hgl]
      have e3 : rowL (L ++ [r]) i = r := by unfold rowL; simp [List.getD_eq_getElem?_getD, ← hL]
      rw [e2, e3]
      exact ⟨hg, ht.kept g1 (hown.ne ht).symm⟩
/-- append of a new row of two, in a region that draws. -/
theorem step_appRowM (wr : World) (x y : Int) {ops : Array Oper} {o : Oper} {a : Act} {K : Act → World → Prop} {Q : Exit → Act → World → Prop} {E : Prop} {W : World} (hgd : o.guard = none) (s t : Operand)
    (ho : o.op = .call { callee := .builtin .append, args := #[s, t], argTypes := #[60, 60] })
    {B n c : Nat} {A : Option Addr} {gs : List Nat} {L : List (List Int)} (hs : a.eval s = .slice A n c) (hx : a.eval t = .slice (some ⟨wr.heap.size + 1, 0, none⟩) 1 1) (hown : OwnM wr B A n c gs L)
    (hW : W.heap = ((wr.alloc (.cells (ints [x, y]).toArray 3)).alloc (.cells #[rowW wr.heap.size [x, y]] 23)).heap) (hWo : W.os = wr.os ∧ W.tape = wr.tape ∧ W.output = wr.output) (hn : n ≤ 1000000) (hB : B ≤ wr.heap.size)
    (h : ∀ A' c' W', OwnM W' B A' (n + 1) c' (gs ++ [wr.heap.size]) (L ++ [[x, y]]) → Below B wr W' → K (a.put o.dst (.slice A' (n + 1) c')) W') :
    if Region.wanted o (yielded ops a.tmps) = true then Oper.wp Try.prog o a W K Q else E := by
  have hw : Region.wanted o (yielded ops a.tmps) = true := by simp [Region.wanted, hgd]
  rw [if_pos hw]
  obtain ⟨W2, hW2⟩ : ∃ W2, (wr.alloc (.cells (ints [x, y]).toArray 3)).alloc (.cells #[rowW wr.heap.size [x, y]] 23) = W2 := ⟨_, rfl⟩
  have o2 : OwnM W2 B A n c gs L := by rw [← hW2]; exact (hown.al _).al _
  have c2 : W2.cell? ⟨wr.heap.size + 1, 0, none⟩ = some (rowW wr.heap.size [x, y]) := by rw [← hW2]; exact box_two _ _ _ _
  have r2 : RowBlk W2 wr.heap.size [x, y] := by rw [← hW2]; exact row_new wr [x, y] _ (by simp)
  have s2 : B ≤ W2.heap.size := by rw [← hW2]; simp; omega
  rw [hW2] at hW
  have o3 : OwnM W B A n c gs L := ⟨⟨o2.row.1, by rcases o2.row.2 with e | ⟨g, cap, cur, e, hb, hh, r⟩; exact .inl e; exact .inr ⟨g, cap, cur, e, hb, by rw [hW]; exact hh, r⟩⟩, o2.len, o2.nodup, fun i hi => ⟨(o2.rows i hi).1, by have := (o2.rows i hi).2; exact ⟨by rw [hW]; exact this.1, this.2⟩⟩⟩
  have c3 : W.cell? ⟨wr.heap.size + 1, 0, none⟩ = some (rowW wr.heap.size [x, y]) := (World.cell?_of_block (w := W2) (a := ⟨wr.heap.size + 1, 0, none⟩) (by rw [hW])).trans c2
  obtain ⟨A', c', W', hrun, h2, h3⟩ := run_appRowM (W := W) o3 (c2 := 1) c3 ⟨by rw [hW]; exact r2.1, r2.2⟩ hB hown.fresh hn (by rw [hW]; exact s2) o.type
  unfold Oper.wp execOp
  simp only [ho, resolve, invoke, builtin, Sem.run_bind, Sem.run_pure, Result.andThen_ok, List.map_toArray, List.map_cons, List.map_nil, hs, hx, hrun]
  have hb2 : Below B wr W2 := by rw [← hW2]; exact ((Below.refl B wr).alloc hB _).alloc (by simp; omega) _
  exact h A' c' W' h2 ⟨h3.os.trans hWo.1, h3.tape.trans hWo.2.1, h3.output.trans hWo.2.2, Nat.le_trans (by rw [hW]; exact hb2.size) h3.size, fun k hk => (h3.block k (by rw [hW]; omega) (fun e => by have := (hown.blk k e.symm).1; omega)).trans (by rw [hW]; exact hb2.block k hk)⟩

end Go.Proofs.Ytiadnbdefcimiaa
