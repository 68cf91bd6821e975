/-
  The runes of any text, and the text of any numbers, are what the document says, errors among them: the law CodeRunes returns true for any string and any list of whole numbers. Conditions: the listed variables hold what the text of the program and the pinned library lay into them.
-/
import Derived.Test.YtlaeaeciomkabaaDoorCards
import Derived.Test.YtlaeaeciomkabaaDoorTie
import Derived.Test.YtlaeaeciomkabaaDoorOpen
import Derived.Test.YtlaeaeciomkabaaDoorOpenZ
import Derived.Test.YtlaeaeciomkabaaDoorCoUtf
import Derived.Test.YtlaeaeciomkabaaDoorLawCoRunes
import Derived.Deep.DeepHandedRow
import Derived.LaidHandle
import Derived.LaidLaws
import Derived.LaidMore
import Derived.MakeChecks
import Derived.ChangeMaps5
import Derived.Lay
namespace Go.Proofs.YtlaeaeciomkabaaDoor
namespace codeRunes
open Go.RowKit Go.Sort Go.Proofs Go.ChangeShapes Go.WideShapes Go.ChangeAt

theorem et : Tryd.prog.globalNamed "errors.errorType" = some 0 := by kernel_rfl
theorem oneRow : ((List.range 166).filter fun t => Tryd.prog.rowNamed t [101, 114, 114, 111, 114]) = [27] := by kernel_rfl
theorem ntypes : Tryd.prog.types.size = 166 := by kernel_rfl
theorem glob_of_laid {W : World} (h : laidMetH Tryd.prog Rows.codeRunesRow.laid W) : Glob W := by
  obtain ⟨_, hh⟩ := (show laidMet Tryd.prog _ W ∧ handlesMet Tryd.prog _ W from h)
  obtain ⟨name, u, ty, e1, e2, e3, e4, e5⟩ := hh _ (List.Mem.head _)
  have en : name = [101, 114, 114, 111, 114] := (Option.some.inj e1).symm
  subst en
  obtain rfl : u = 117 := Option.some.inj (e2.symm.trans (by kernel_rfl))
  have hm : ty ∈ (List.range 166).filter fun t => Tryd.prog.rowNamed t [101, 114, 114, 111, 114] := List.mem_filter.2 ⟨List.mem_range.2 (by rw [← ntypes]; exact e3), e4⟩
  rw [oneRow] at hm
  obtain rfl := List.mem_singleton.1 hm
  have hh : typeHandle Tryd.prog 27 = .pointer (some ⟨7, 27, none⟩) := by kernel_rfl
  rw [hh] at e5
  have hc : W.cell? ⟨0, 0, none⟩ = some (.iface 117 (.agg #[.pointer (some ⟨7, 27, none⟩)])) := by simpa using World.var?_cell et e5 0
  refine ⟨?_, hc⟩
  rcases Nat.lt_or_ge 0 W.heap.size with h | h
  · exact h
  · simp [World.cell?, Array.getElem?_eq_none h] at hc

theorem utf_of {W : World} (h : laidMetH Tryd.prog Rows.codeRunesRow.laid W) : Utf W := by
  obtain ⟨hp, _⟩ := (show laidMet Tryd.prog _ W ∧ handlesMet Tryd.prog _ W from h)
  exact utf_of_laid (List.Mem.tail _ (List.Mem.head _)) (List.Mem.head _) (show laidMet Tryd.prog [("unicode/utf8.acceptRanges", Rows.laid_unicode_utf8_acceptRanges), ("unicode/utf8.first", Rows.laid_unicode_utf8_first)] W from hp)

set_option maxRecDepth 20000 in
theorem contract (H : Type) (enc : TypeId × Value → H) (W : World) (base : Nat) (args : Array Value) (ds gs : List (DataW H)) (before : List MemPlace)
    (hval : ∀ (j : Nat) t v, Tryd.f8.params[j]? = some t → args[j]? = some v → Value.okWide Tryd.prog W .any base t v)
    (hW : DataW.Whole enc Tryd.prog Tryd.f8.params.toList Rows.codeRunesSpec.vars false W args.toList ds gs before) (hL : laidMetH Tryd.prog Rows.codeRunesRow.laid W) :
    Calls Tryd.prog 8 args W fun e W' => ∃ v, e = .returned v ∧ Rows.codeRunesSpec.post enc Tryd.prog Tryd.f8 false true false false W args v W' := by
  have hW' := hW
  obtain ⟨p, q, hA0, hV, rfl, hfz, hnd⟩ := hW
  have hA : DataW.TrodAll enc Tryd.prog W 0 (fun _ => true) true Tryd.f8.params.toList args.toList ds p := hA0
  rw [Tryd.params8] at hA hval
  obtain ⟨v0, vs0, d0, ds0, p0, q0, hargs, rfl, rfl, h0, r0⟩ := trodAll_cons hA
  obtain ⟨v1, vs1, d1, ds1, p1, q1, rfl, rfl, rfl, h1, r1⟩ := trodAll_cons r0
  obtain ⟨rfl, rfl, rfl⟩ := trodAll_nil r1
  obtain rfl : args = #[v0, v1] := by cases args; simp_all
  obtain ⟨rfl, rfl⟩ := trodVars_none hV
  obtain ⟨s0, rfl, rfl, rfl, ws0⟩ := ChangeMaps.open_string Tryd.underlying9 (hval 0 9 v0 rfl rfl) h0
  obtain ⟨a1, len1, cap1, rfl⟩ := okWide_slice Tryd.underlying22 (hval 1 22 v1 rfl rfl)
  have k1 := h1
  have lt1 : ∀ x ∈ p1, x.block < W.heap.size := by obtain ⟨m, hm⟩ := k1; exact DataW.trod_lt m _ _ _ hm
  obtain ⟨xs1, sl1, hs1, hm1⟩ : ∃ xs : List Int, SlE EZ W (.slice a1 len1 cap1) xs ∧ xs.length = len1 ∧ xs.length ≤ maxLen := by
    obtain ⟨fuel, hf⟩ := h1
    exact open_nums (by simpa [Value.cells] using hf)
  unfold maxLen at hm1
  clear hA0
  have hG := glob_of_laid hL
  have hF := utf_of hL
  refine (codeRunes_any s0 W sl1 (by omega) hF hG).mono fun e W' ⟨he, bel⟩ => ?_
  subst he
  exact ⟨_, rfl, _, _, _, [], _, [], hW', trodAll_mk1 (shut_bool Tryd.underlying4 _), (trodAll_cons_mk (ChangeMaps.shut_string Tryd.underlying9 ws0) (trodAll_cons_mk (Below.trod laidOut (by kernel_rfl) (of_decide_eq_true (by kernel_rfl)) k1 bel lt1) trodAll_mk0)), rfl, bel.frame _, fun h => by cases h⟩

theorem wit (os : Os) {H : Type} (enc : TypeId × Value → H) : ∃ W9 : World, W9.os = os ∧ (W9.forCall (fun _ _ => 0) ⟨#[], #[.string ⟨#[]⟩, .slice none 0 0], []⟩).variablesB Tryd.prog = true ∧ ((W9.forCall (fun _ _ => 0) ⟨#[], #[.string ⟨#[]⟩, .slice none 0 0], []⟩).heap.toList.drop Tryd.prog.globals.size).take ((begin Tryd.prog (fun _ _ => 0) default).world.heap.size - Tryd.prog.globals.size) = (begin Tryd.prog (fun _ _ => 0) default).world.heap.toList.drop Tryd.prog.globals.size ∧ Input.okWideB Tryd.prog (W9.forCall (fun _ _ => 0) ⟨#[], #[.string ⟨#[]⟩, .slice none 0 0], []⟩) 8 ⟨#[], #[.string ⟨#[]⟩, .slice none 0 0], []⟩ = true ∧ laidMetH Tryd.prog Rows.codeRunesRow.laid (W9.forCall (fun _ _ => 0) ⟨#[], #[.string ⟨#[]⟩, .slice none 0 0], []⟩).memory ∧ (OpenSpec.ofChange Rows.codeRunesSpec).bare.sizedB enc Tryd.prog Tryd.f8 false (W9.forCall (fun _ _ => 0) ⟨#[], #[.string ⟨#[]⟩, .slice none 0 0], []⟩).memory #[.string ⟨#[]⟩, .slice none 0 0] 8 = true ∧ ∃ places, DataW.whole enc Tryd.prog (W9.forCall (fun _ _ => 0) ⟨#[], #[.string ⟨#[]⟩, .slice none 0 0], []⟩).memory Tryd.f8.params.toList Rows.codeRunesSpec.vars false (#[.string ⟨#[]⟩, .slice none 0 0] : Array Value).toList 8 = some ([.lit (.string []), .nil], [], places) :=
  by
  obtain ⟨W9, hW⟩ : ∃ W9 : World, W9 = ((World.doorLaid Tryd.prog 41 os).layVars Tryd.prog ((Rows.codeRunesRow.laid.filter fun x => x.2.handleName?.isNone).filter fun x => ["unicode/utf8.first"].contains x.1)) := ⟨_, rfl⟩
  have h : laidMet Tryd.prog (Rows.codeRunesRow.laid.filter fun x => x.2.handleName?.isNone) W9 :=
    laidMet_layVars (w0 := World.doorLaid Tryd.prog 41 os) (laid := (Rows.codeRunesRow.laid.filter fun x => x.2.handleName?.isNone)) ["unicode/utf8.first"] [2] (by rw [hW]) (by kernel_rfl) (by rw [hW]; kernel_rfl) (by rw [hW]; exact LaidIn.of_run [2] 8 (by kernel_rfl) (by kernel_rfl) (by kernel_rfl) (by kernel_rfl))
  exact ⟨W9, by rw [hW]; exact World.layVars_os _ _ _, by rw [hW]; kernel_rfl, by rw [hW]; kernel_rfl, by rw [hW]; kernel_rfl, laidMetH_of_parts3 (fuel := 8) (h.of_heap (by simp [World.memory, World.forCall, Input.heap])) (by rw [hW]; kernel_rfl) (by rw [hW]; kernel_rfl), by rw [hW]; kernel_rfl, [], by rw [hW]; kernel_rfl⟩
set_option maxHeartbeats 2000000 in
set_option maxRecDepth 100000 in
theorem lifted (os : Os) (started : os.Started) (H : Type) (enc : TypeId × Value → H) (F : Stop.Interp) :
    ReturnsInHanded {} Tryd.checked os 8 .any ((OpenSpec.ofChange Rows.codeRunesSpec).preRow enc Tryd.prog Tryd.f8 Rows.codeRunesRow.domain false Rows.codeRunesRow.laid) (((OpenSpec.ofChange Rows.codeRunesSpec).at F).post enc Tryd.prog Tryd.f8 false true false false) := by
  obtain ⟨W9, h1, h2, h3, h4, h5, h6, places, hx⟩ := wit os enc
  refine returnsInHanded_of_row (C := Tryd.checked) (s := OpenSpec.ofChange Rows.codeRunesSpec) knob started (by kernel_rfl) Tryd.func8
    (witness_row_at (enc := enc) (C := Tryd.checked) false W9 #[.string ⟨#[]⟩, .slice none 0 0] h1 h2 h3 h4
      (OpenSpec.preRow_of_cond 8 hx (by kernel_rfl) (fun k hk => by cases hk) h6 h5)) ?_
  intro W base args ds gs before hval hW _ _ _ hL _ _
  exact contract H enc W base args ds gs before hval hW hL

theorem said : Rows.CodeRunesSaid :=
  OpenClaim.holds_of_cond 8 Tryd.f8 rfl rfl rfl rfl rfl rfl rfl ⟨rfl, rfl, rfl, rfl, rfl⟩ rfl rfl rfl rfl rfl (by kernel_rfl) Tryd.func8 (by kernel_rfl)
    (of_decide_eq_true (by kernel_rfl)) (by unfold Func.isWrapper; first | (rw [if_pos (by decide +kernel)]; kernel_rfl) | (rw [if_neg (by decide +kernel)]; exact ⟨rfl, rfl⟩))
    (fun os started H enc _ F => by rw [OpenClaim.pre_eq_preRow]; exact lifted os started H enc F)

theorem plain (f : FuncId) (fn : Func) (hf : Tryd.pinned.checked.prog.funcNamed Rows.codeRunesRow.func = some f) (hfn : Tryd.pinned.checked.prog.funcs[f]? = some fn) :
    true = Tryd.pinned.checked.prog.looks [] ∧ ∀ (j : Nat) t, fn.params[j]? = some t → Tryd.pinned.checked.prog.wantsStandIn t = false := by
  obtain rfl : f = 8 := Option.some.inj ((show Tryd.prog.funcNamed Rows.codeRunesRow.func = some 8 by kernel_rfl).symm.trans hf) |>.symm
  obtain rfl : fn = Tryd.f8 := (Option.some.inj (Tryd.func8.symm.trans hfn)).symm
  refine ⟨by kernel_rfl, fun j t ht => ?_⟩
  rw [Tryd.params8] at ht
  rcases (show t = 9 ∨ t = 22 by simpa using Array.mem_of_getElem? ht) with rfl | rfl
  · exact (show Tryd.prog.wantsStandIn 9 = false by kernel_rfl)
  · exact (show Tryd.prog.wantsStandIn 22 = false by kernel_rfl)
end codeRunes

theorem codeRunes_card_holds : Rows.CodeRunesCardSaid :=
  Claim7.holds_tied_plain_at .later [] _ _ _ _ codeRunes.said (fun _ h => by cases h) (by kernel_rfl) (fun _ h => by cases h) codeRunes_row_tie rfl ⟨rfl, rfl⟩ (by kernel_rfl) rfl codeRunes.plain (by kernel_rfl)
#print axioms codeRunes_card_holds
end Go.Proofs.YtlaeaeciomkabaaDoor
