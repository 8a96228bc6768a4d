/- Behind commits that name none of its files a transaction is as it was; behind none, too: it answers true and changes nothing: the card. Condition: the row's own, that the table of conflicts holds what the program's text lays. -/
import Derived.Test.YtjpjdkdbgjipnaaDoorULawRebaseIdle
import Derived.Test.YtjpjdkdbgjipnaaDoorU37
import Derived.ChangeMaps5
namespace Go.Proofs.YtjpjdkdbgjipnaaDoor
open Go.ChangeShapes Go.WideShapes Go.ChangeAt Go.RowKit
set_option maxRecDepth 100000 in
theorem rebaseIdle_contract (H : Type) (enc : TypeId × Value → H) (W : World) (base : Nat) (args : Array Value) (ds gs : List (DataW H)) (before : List MemPlace)
  (hval0 : ∀ (j : Nat) t v, Tryd.f8.params[j]? = some t → args[j]? = some v → Value.okWide Tryd.prog W .any base t v)
  (hW : DataW.Whole enc Tryd.prog Tryd.f8.params.toList Rows.rebaseIdleSpec.vars false W args.toList ds gs before) (hC : ConfAt W) :
  Calls Tryd.prog 8 args W fun e W' => ∃ v, e = .returned v ∧ Rows.rebaseIdleSpec.post enc Tryd.prog Tryd.f8 false true false false W args v W' := by
 have hval : ∀ (j : Nat) t v, Tryd.f8.params[j]? = some t → args[j]? = some v → Value.okWide Tryd.prog W .any base t v := hval0
 have hW' := hW
 obtain ⟨p, q, hA0, hV, rfl, _, _⟩ := hW
 have hlt : ∀ x ∈ p ++ q, x.block < W.heap.size := fun x hx => hW'.lt x hx
 have hA : DataW.TrodAll enc Tryd.prog W 0 (fun _ => true) true Tryd.f8.params.toList args.toList ds p := hA0
 rw [Tryd.params8] at hA hval
 obtain ⟨v0, v1, d0, d1, p0, p1, rfl, rfl, rfl, h0, h1⟩ := trodAll_two hA
 obtain ⟨rfl, rfl⟩ := trodVars_none hV
 obtain ⟨A0, l0, c0, rfl, hat0, hg0, hlc0, hc0⟩ := yy363 (hval 0 23 v0 rfl rfl) h0 (fun x hx => hlt x (by simp [hx]))
 have hl0 : l0.length ≤ maxLen := by omega
 obtain ⟨A1, l1, c1, rfl, hat1, hg1, hlc1, hc1⟩ := yy464 (hval 1 59 v1 rfl rfl) h1 (fun x hx => hlt x (by simp [hx]))
 have hl1 : l1.length ≤ maxLen := by omega
 clear hA0 hval0
 refine (yy362 A0 l0 c0 A1 l1 c1 hl0 hg0 hl1 hg1 W ⟨hat0, hlc0⟩ ⟨hat1, hlc1⟩ hC).mono fun e W' ⟨he, hb⟩ => ?_
 exact ⟨_, he, law_post law_laid (by kernel_rfl) (by kernel_rfl) Tryd.underlying4 rfl hW' rfl hb⟩
theorem rebaseIdle_laid_met (os : Os) : laidMet Tryd.prog Rows.rebaseIdleRow.laid ((yy52 os).forCall (fun _ _ => 0) ⟨#[], #[.slice none 0 0, .slice none 0 0], []⟩).memory :=
 laidMet_of_run' 8 (by kernel_rfl) (by kernel_rfl)
theorem rebaseIdle_reads (os : Os) {H : Type} (enc : TypeId × Value → H) : ∃ places, DataW.whole enc Tryd.prog ((yy52 os).forCall (fun _ _ => 0) ⟨#[], #[.slice none 0 0, .slice none 0 0], []⟩).memory Tryd.f8.params.toList Rows.rebaseIdleSpec.vars false (#[.slice none 0 0, .slice none 0 0] : Array Value).toList 8 = some ([.nil, .nil], [], places) :=
 ⟨[], by kernel_rfl⟩
set_option maxRecDepth 100000 in
theorem rebaseIdle_lifted (os : Os) (started : os.Started) (H : Type) (enc : TypeId × Value → H) (F : Stop.Interp) :
  ReturnsInHanded {} Tryd.checked os 8 .any ((OpenSpec.ofChange Rows.rebaseIdleSpec).preRow enc Tryd.prog Tryd.f8 Rows.rebaseIdleRow.domain false Rows.rebaseIdleRow.laid) (((OpenSpec.ofChange Rows.rebaseIdleSpec).at F).post enc Tryd.prog Tryd.f8 false true false false) := by
 obtain ⟨places, hx⟩ := rebaseIdle_reads os enc
 refine returnsInHanded_of_row (C := Tryd.checked) (s := OpenSpec.ofChange Rows.rebaseIdleSpec) law_own started (by kernel_rfl) Tryd.func8
  (witness_row_at (enc := enc) (C := Tryd.checked) false (yy52 os) #[.slice none 0 0, .slice none 0 0] rfl (by kernel_rfl) (by kernel_rfl) (by kernel_rfl)
   (OpenSpec.preRow_of_cond 8 hx (by kernel_rfl) (fun k hk => by cases hk) (by kernel_rfl) (rebaseIdle_laid_met os))) ?_
 intro W base args ds gs before hval hW _ _ _ hL _ _
 exact rebaseIdle_contract H enc W base args ds gs before hval hW (yy98 hL)
theorem rebaseIdle_said : Rows.RebaseIdleSaid :=
 OpenClaim.holds_of_cond 8 Tryd.f8 rfl rfl rfl rfl rfl rfl rfl ⟨rfl, rfl, rfl, rfl, rfl⟩ rfl rfl rfl rfl rfl (by kernel_rfl) Tryd.func8 (by kernel_rfl)
  (of_decide_eq_true (by kernel_rfl)) (by unfold Func.isWrapper; first | (rw [if_pos (by decide +kernel)]; kernel_rfl) | (rw [if_neg (by decide +kernel)]; exact ⟨rfl, rfl⟩))
  (fun os started H enc _ F => by rw [OpenClaim.pre_eq_preRow]; exact rebaseIdle_lifted os started H enc F)
theorem rebaseIdle_plain (f : FuncId) (fn : Func) (hf : Tryd.pinned.checked.prog.funcNamed "ropewalk/ropewalklaw16.RebaseIdle" = some f) (hfn : Tryd.pinned.checked.prog.funcs[f]? = some fn) :
  false = Tryd.pinned.checked.prog.looks [] ∧ ∀ (j : Nat) t, fn.params[j]? = some t → Tryd.pinned.checked.prog.wantsStandIn t = false := by
 obtain rfl : f = 8 := Option.some.inj ((show Tryd.prog.funcNamed "ropewalk/ropewalklaw16.RebaseIdle" = some 8 by kernel_rfl).symm.trans hf) |>.symm
 obtain rfl : fn = Tryd.f8 := (Option.some.inj (Tryd.func8.symm.trans hfn)).symm
 refine ⟨by kernel_rfl, fun j t ht => ?_⟩
 rw [Tryd.params8] at ht
 have hts : t = 23 ∨ t = 59 := by simpa using Array.mem_of_getElem? ht
 rcases hts with rfl | rfl
 ·exact (show Tryd.prog.wantsStandIn 23 = false by kernel_rfl)
 ·exact (show Tryd.prog.wantsStandIn 59 = false by kernel_rfl)
theorem rebaseIdle_card : Rows.RebaseIdleCardSaid :=
 Claim7.holds_tied_plain_at .later [] _ _ _ _ rebaseIdle_said (fun _ h => by cases h) (by kernel_rfl) (fun _ h => by cases h) rebaseIdle_row_tie rfl ⟨rfl, rfl⟩ (by kernel_rfl) rfl rebaseIdle_plain (by kernel_rfl)
end Go.Proofs.YtjpjdkdbgjipnaaDoor
