/- FnExactTermLength: for every input that can be read, where errLong reads as the program lays it, the law's Go text returns true and leaves its arguments as they were. -/
import Derived.Test.YtegpidlhhneilaaDoorE10a
import Derived.Test.YtegpidlhhneilaaDoorCards
import Derived.Test.YtegpidlhhneilaaDoorTie
import Derived.ChangeSame
import Derived.ChangeVars
import Derived.LaidLaws
import Derived.Stop.ErrReads
import Derived.SevenTiedAt
namespace Go.Proofs.YtegpidlhhneilaaDoor.fnExactTermLength
open Go.ChangeShapes Go.WideShapes Go.ChangeAt Go.RowKit
open Go.ChangeMaps (open_string shut_string)
set_option linter.unusedVariables false
theorem sentinel {W : World} (h : laidMet Tryd.prog Rows.fnExactTermLengthRow.laid W) : ∃ a, W.var? Tryd.prog "loop.example/closingsticks/impl.errLong" = some #[.iface 63 (.pointer (some a))] := by
  obtain ⟨ps, ⟨g0, t0, cs0, f0, p0, q0, hg0, ht0, hv0, hd0, hq0, e0⟩, hnd, hrows⟩ := h
  obtain rfl := Option.some.inj (errLong_name.symm.trans hg0)
  obtain rfl := Option.some.inj (errLong_type.symm.trans ht0)
  have hq0' : q0 = [] := hq0
  subst hq0'
  subst e0
  obtain ⟨l0⟩ := cs0
  have ok0 : ∀ u v, l0 = [.iface u v] → Value.okWide Tryd.prog W .any 0 u v := fun u v e => by
    subst e
    exact (hrows 0 0 (by simp [MemPlace.row])).2 u v (by simpa using World.var?_cell hg0 hv0 0)
  obtain ⟨a0, s0, rfl, hc0, hs0, hz0, rfl⟩ := errorString_of_trod Tryd.underlying36 errLong_row Tryd.underlying63 Tryd.underlying86 rfl rfl Tryd.underlying9 errLong_cells errLong_cells9 hd0 ok0
  exact ⟨a0, hv0⟩
theorem vars_read {H : Type} (enc : TypeId × Value → H) {W : World} {x0 : Value} (h0 : W.var? Tryd.prog "loop.example/closingsticks/impl.errLong" = some #[x0]) (i0 : IsIface x0) (sp : Nat → Bool) :
    DataW.TrodVars enc Tryd.prog W sp ["loop.example/closingsticks/impl.errLong"] [tok enc x0] [.cell 0 0] :=
  ⟨0, 36, #[x0], 1, [], [], errLong_name, errLong_type, h0, trod_held Tryd.underlying36 i0 0, rfl, rfl⟩
theorem var_below {W W' : World} {cs : Array Value} (h : W.var? Tryd.prog "loop.example/closingsticks/impl.errLong" = some cs) (b : Below W.heap.size W W') : W'.var? Tryd.prog "loop.example/closingsticks/impl.errLong" = some cs := by
  unfold World.var? at h ⊢
  rw [errLong_name] at h ⊢
  simp only [Option.bind_some] at h ⊢
  have hlt : 0 < W.heap.size := by
    rcases Nat.lt_or_ge 0 W.heap.size with h' | h'
    · exact h'
    · simp [Array.getElem?_eq_none h'] at h
  rw [b.block _ hlt]
  exact h
set_option maxRecDepth 100000 in
theorem lifted (os : Os) (started : os.Started) (H : Type) (enc : TypeId × Value → H) :
    ReturnsInHanded {} Tryd.checked os 3 .any (fun w args => (Rows.fnExactTermLengthSpec.pre enc Tryd.prog Tryd.f3 [] false w args ∧ laidMet Tryd.prog Rows.fnExactTermLengthRow.laid w) ∧ sizedMet enc Tryd.prog Tryd.f3 (OpenSpec.ofChange Rows.fnExactTermLengthSpec) false w args)
      (Rows.fnExactTermLengthSpec.post enc Tryd.prog Tryd.f3 false true false false) := by
  refine returnsInHanded_of_change_and (C := Tryd.checked) (X := fun w _ => laidMet Tryd.prog Rows.fnExactTermLengthRow.laid w) (fun _ _ _ hh h => h.of_heap hh) ownF started (by kernel_rfl) Tryd.func3
    (ChangeSpec.witness_at (enc := enc) (C := Tryd.checked) (os := os) (X := fun w _ => laidMet Tryd.prog Rows.fnExactTermLengthRow.laid w) false
      { World.holding Tryd.prog os ⟨#[.cells #[.string ⟨#[97, 32, 119, 97, 108, 107, 32, 111, 102, 32, 109, 111, 114, 101, 32, 116, 104, 97, 110, 32, 50, 48, 48, 32, 108, 101, 116, 116, 101, 114, 115]⟩] 86], #[], []⟩ with heap := (World.holding Tryd.prog os ⟨#[.cells #[.string ⟨#[97, 32, 119, 97, 108, 107, 32, 111, 102, 32, 109, 111, 114, 101, 32, 116, 104, 97, 110, 32, 50, 48, 48, 32, 108, 101, 116, 116, 101, 114, 115]⟩] 86], #[], []⟩).heap.modify 0 fun
        | .cells _ t frozen => .cells #[.iface 63 (.pointer (some ⟨(World.holding Tryd.prog default ⟨#[], #[], []⟩).heap.size, 0, none⟩))] t frozen
        | o => o }
      #[.string ⟨#[]⟩] 8 rfl (by kernel_rfl) (by kernel_rfl) (by kernel_rfl) (by kernel_rfl) (by kernel_rfl)
      (laidMet_of_run (ps := [.cell 0 0, .cell (World.holding Tryd.prog default ⟨#[], #[], []⟩).heap.size 0]) 8 (by kernel_rfl) (by kernel_rfl) (by kernel_rfl))) ?_
  intro W base args ds gs before hval0 hW _ _ hL _
  have hval : ∀ (j : Nat) t v, Tryd.f3.params[j]? = some t → args[j]? = some v → Value.okWide Tryd.prog W .any base t v := hval0
  have hW' := hW
  obtain ⟨p, q, hA0, hV0, rfl, hfz, hnd⟩ := hW
  have hA : DataW.TrodAll enc Tryd.prog W 0 (fun _ => true) true Tryd.f3.params.toList args.toList ds p := hA0
  have hV : DataW.TrodVars enc Tryd.prog W (fun _ => true) ["loop.example/closingsticks/impl.errLong"] gs q := hV0
  rw [Tryd.params3] at hA hval
  obtain ⟨v0, d0, rfl, rfl, h0⟩ := trodAll_one hA
  obtain ⟨s, rfl, rfl, rfl, hs⟩ := open_string Tryd.underlying9 (hval 0 9 v0 rfl rfl) h0
  obtain ⟨a0, hv0⟩ := sentinel hL
  obtain ⟨rfl, rfl⟩ := hV.unique (vars_read enc hv0 trivial _)
  clear hA0 hV0 hval0
  have hg0 : W.cell? ⟨0, 0, none⟩ = some (.iface 63 (.pointer (some a0))) := by simpa using World.var?_cell errLong_name hv0 0
  have hwalk := fnExactTermLength_walk s.data.toList 63 (.pointer (some a0)) W (by rw [Array.length_toList]; exact hs) hg0
  rw [← bsB_of s] at hwalk
  refine hwalk.mono fun e W' ⟨he, bel⟩ => ?_
  subst he
  have e1 : Rows.fnExactTermLengthSpec.fn H ([.lit (.string s.data.toList)] ++ [tok enc (.iface 63 (.pointer (some a0)))]) = { results := [.lit (.bool true)], args := [.lit (.string s.data.toList)], vars := [tok enc (.iface 63 (.pointer (some a0)))] } := by simp [Rows.fnExactTermLengthSpec]
  refine ⟨_, rfl, _, _, _, [], [], [.cell 0 0], hW', ?_, ?_, ?_, bel.frame _, fun h => by cases h⟩
  · rw [e1]; exact trodAll_mk1 (shut_bool Tryd.underlying4 _)
  · rw [e1]; exact trodAll_mk1 (shut_string Tryd.underlying9 hs)
  · rw [e1]; exact vars_read enc (var_below hv0 bel) trivial _
theorem closed : joinedFacts Tryd.prog 3 Tryd.f3 Rows.fnExactTermLengthSpec Rows.fnExactTermLengthRow = true := by
  unfold joinedFacts
  repeat' (with_reducible refine bandF ?_ ?_)
  all_goals first | (with_reducible exact laidF) | (with_reducible exact rowedF) | (with_reducible exact heardF) | (with_reducible exact mayF) | ((with_reducible refine liftF _ ?_); rfl) | ((with_reducible refine makeF _ ?_); rfl) | kernel_rfl
theorem over : Rows.fnExactTermLengthRow.holds Tryd.pinned (OpenSpec.ofChange Rows.fnExactTermLengthSpec) :=
  OpenClaim.holds_of_wide 3 Tryd.f3 rfl rfl rfl rfl rfl rfl rfl ⟨rfl, rfl, rfl, rfl, rfl⟩ rfl rfl rfl rfl rfl (by kernel_rfl) Tryd.func3 closed
    (of_decide_eq_true (by kernel_rfl)) (by unfold Func.isWrapper; first | (rw [if_pos (by decide +kernel)]; kernel_rfl) | (rw [if_neg (by decide +kernel)]; exact ⟨rfl, rfl⟩))
    (fun os started H enc _ => lifted os started H enc)
theorem proved : Rows.FnExactTermLengthCardSaid :=
  Claim7.holds_tied_plain_at .later [] [.sentinel] true (true, "a6785954a8e70e090720b549cd4e8474a49827c8f19078599f807c76dae5eb9d") false
    over (fun _ h => by cases h) (by kernel_rfl) (fun _ h => by cases h) fnExactTermLength_row_tie rfl ⟨rfl, rfl⟩ (by kernel_rfl) rfl
    (fun f fn hf hfn => by
      obtain rfl : f = 3 := Option.some.inj ((show Tryd.prog.funcNamed "loop.example/closingsticks/laws.FnExactTermLength" = some 3 by kernel_rfl).symm.trans hf) |>.symm
      obtain rfl : fn = Tryd.f3 := (Option.some.inj (Tryd.func3.symm.trans hfn)).symm
      exact ⟨by kernel_rfl, fun j t ht => by
        rw [Tryd.params3] at ht
        have h3 : t = 9 := by
          rcases j with _ | j
          · simpa using ht.symm
          · simp at ht
        subst h3
        exact (show Tryd.prog.wantsStandIn 9 = false by kernel_rfl)⟩)
    (by kernel_rfl)
#print axioms proved
end Go.Proofs.YtegpidlhhneilaaDoor.fnExactTermLength
