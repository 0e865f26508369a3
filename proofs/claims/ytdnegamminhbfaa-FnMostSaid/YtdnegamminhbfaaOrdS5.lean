/- The model's zonogons. -/
import Derived.Test.YtdnegamminhbfaaOrdS4
import Derived.Test.YtdnegamminhbfaaOrdS2
import Derived.Test.YtdnegamminhbfaaPathI6
namespace Go.Proofs.Ytdnegamminhbfaa
open Go.RowKit Go.Sort Go.Lib

theorem rowsOf_app (a b : List Pt) : rowsOf (a ++ b) = rowsOf a ++ rowsOf b := by simp [rowsOf]
theorem starB_steps {L : List (List Int)} (h : starB L = true) : stepsB (rowsOf ((ptsL L).map upV)) = true := by
  obtain ⟨_, _, _, hs⟩ := starB_true h
  exact stepsB_rows fun s hs' => by
    obtain ⟨a, ha, rfl⟩ := List.mem_map.1 hs'
    exact upV_step (hs a ha)

theorem step_appRowX (wr : World) (x y : Int) {ops : Array Oper} {o : Oper} {a : Act} {K : Act → World → Prop} {Q : Exit → Act → World → Prop} {E : Prop} {W : World} (hgd : o.guard = none) (s t : Operand)
    (ho : o.op = .call { callee := .builtin .append, args := #[s, t], argTypes := #[23, 23] })
    {B n c : Nat} {A : Option Addr} {gs : List Nat} {L : List (List Int)} (hs : a.eval s = .slice A n c) (hx : a.eval t = .slice (some ⟨wr.heap.size + 1, 0, none⟩) 1 1) (hown : OwnX wr B A n c gs L)
    (hW : W.heap = ((wr.alloc (.cells (ints [x, y]).toArray 3)).alloc (.cells #[rowW wr.heap.size [x, y]] 30)).heap) (hWo : W.os = wr.os ∧ W.tape = wr.tape ∧ W.output = wr.output) (hn : n ≤ 100000) (hB : B ≤ wr.heap.size)
    (h : ∀ A' c' W', OwnX W' B A' (n + 1) c' (gs ++ [wr.heap.size]) (L ++ [[x, y]]) → Below B wr W' → wr.heap.size < W'.heap.size → K (a.put o.dst (.slice A' (n + 1) c')) W') :
    if Region.wanted o (yielded ops a.tmps) = true then Oper.wp Try.prog o a W K Q else E := by
  obtain ⟨W2, hW2⟩ : ∃ W2, (wr.alloc (.cells (ints [x, y]).toArray 3)).alloc (.cells #[rowW wr.heap.size [x, y]] 30) = W2 := ⟨_, rfl⟩
  have hz2 : W2.heap.size = wr.heap.size + 2 := by rw [← hW2]; simp
  have hb2 : Below wr.heap.size wr W2 := by rw [← hW2]; exact below_alloc (below_alloc (Below.refl _ _) _) _
  have c2 : W2.cell? ⟨wr.heap.size + 1, 0, none⟩ = some (rowW wr.heap.size [x, y]) := by rw [← hW2]; exact box_two _ _ _ _
  have r2 : RowBlk W2 wr.heap.size [x, y] := by rw [← hW2]; exact row_new wr [x, y] _ (by simp)
  rw [hW2] at hW
  have hbW : Below wr.heap.size wr W := ⟨hWo.1, hWo.2.1, hWo.2.2, by rw [hW]; exact hb2.size, fun k hk => by rw [hW]; exact hb2.block k hk⟩
  have c3 : W.cell? ⟨wr.heap.size + 1, 0, none⟩ = some (rowW wr.heap.size [x, y]) := (World.cell?_of_block (w := W2) (a := ⟨wr.heap.size + 1, 0, none⟩) (by rw [hW])).trans c2
  have hsrc : SrcX W (some ⟨wr.heap.size + 1, 0, none⟩) 1 [wr.heap.size] [[x, y]] := srcBox c3 (by rw [hW, hz2]; omega) ⟨by rw [hW]; exact r2.1, r2.2⟩
  refine step_appX hgd s t ho hs (hown.same hbW) hx hsrc (by omega) (by rw [hW, hz2]; omega) fun A' c' W' h2 h3 => ?_
  refine h A' c' W' h2 ((hbW.mono hB).grown h3 (by rw [hW, hz2]; omega) (fun k e => (hown.blk k e).1)) (Nat.lt_of_lt_of_le (by rw [hW, hz2]; omega) h3.size)

end Go.Proofs.Ytdnegamminhbfaa
