/- With nothing in common a transaction stays as it is, and may be done behind the other one: it answers true and changes nothing: the card. Condition: the row's own, that the table of conflicts holds what the program's text lays. -/
import Derived.Test.YtjpjdkdbgjipnaaDoorULawRebaseApart
import Derived.Test.YtjpjdkdbgjipnaaDoorU37
import Derived.ChangeMaps5
namespace Go.Proofs.YtjpjdkdbgjipnaaDoor
open Go.ChangeShapes Go.WideShapes Go.ChangeAt Go.RowKit
set_option maxRecDepth 100000 in
theorem rebaseApart_contract (H : Type) (enc : TypeId × Value → H) (W : World) (base : Nat) (args : Array Value) (ds gs : List (DataW H)) (before : List MemPlace)
  (hval0 : ∀ (j : Nat) t v, Tryd.f3.params[j]? = some t → args[j]? = some v → Value.okWide Tryd.prog W .any base t v)
  (hW : DataW.Whole enc Tryd.prog Tryd.f3.params.toList Rows.rebaseApartSpec.vars false W args.toList ds gs before) (hC : ConfAt W) :
  Calls Tryd.prog 3 args W fun e W' => ∃ v, e = .returned v ∧ Rows.rebaseApartSpec.post enc Tryd.prog Tryd.f3 false true false false W args v W' := by
 have hval : ∀ (j : Nat) t v, Tryd.f3.params[j]? = some t → args[j]? = some v → Value.okWide Tryd.prog W .any base t v := hval0
 have hW' := hW
 obtain ⟨p, q, hA0, hV, rfl, _, _⟩ := hW
 have hlt : ∀ x ∈ p ++ q, x.block < W.heap.size := fun x hx => hW'.lt x hx
 have hA : DataW.TrodAll enc Tryd.prog W 0 (fun _ => true) true Tryd.f3.params.toList args.toList ds p := hA0
 rw [Tryd.params3] at hA hval
 obtain ⟨v0, v1, v2, d0, d1, d2, p0, p1, p2, rfl, rfl, rfl, h0, h1, h2⟩ := trodAll_three hA
 obtain ⟨rfl, rfl⟩ := trodVars_none hV
 obtain ⟨A0, l0, c0, rfl, hat0, hg0, hlc0, hc0⟩ := yy664 (hval 0 22 v0 rfl rfl) h0 (fun x hx => hlt x (by simp [hx]))
 have hl0 : l0.length ≤ maxLen := by omega
 obtain ⟨A1, l1, c1, rfl, hat1, hg1, hlc1, hc1⟩ := yy363 (hval 1 23 v1 rfl rfl) h1 (fun x hx => hlt x (by simp [hx]))
 have hl1 : l1.length ≤ maxLen := by omega
 obtain ⟨A2, l2, c2, rfl, hat2, hg2, hlc2, hc2⟩ := yy363 (hval 2 23 v2 rfl rfl) h2 (fun x hx => hlt x (by simp [hx]))
 have hl2 : l2.length ≤ maxLen := by omega
 clear hA0 hval0
 refine (yy305 A0 l0 c0 A1 l1 c1 A2 l2 c2 hl0 hg0 hl1 hg1 hl2 hg2 W ⟨hat0, hlc0⟩ ⟨hat1, hlc1⟩ ⟨hat2, hlc2⟩ hC).mono fun e W' ⟨he, hb⟩ => ?_
 exact ⟨_, he, law_post law_laid (by kernel_rfl) (by kernel_rfl) Tryd.underlying4 rfl hW' rfl hb⟩
theorem rebaseApart_laid_met (os : Os) : laidMet Tryd.prog Rows.rebaseApartRow.laid ((yy52 os).forCall (fun _ _ => 0) ⟨#[], #[.slice none 0 0, .slice none 0 0, .slice none 0 0], []⟩).memory :=
 laidMet_of_run' 8 (by kernel_rfl) (by kernel_rfl)
theorem rebaseApart_reads (os : Os) {H : Type} (enc : TypeId × Value → H) : ∃ places, DataW.whole enc Tryd.prog ((yy52 os).forCall (fun _ _ => 0) ⟨#[], #[.slice none 0 0, .slice none 0 0, .slice none 0 0], []⟩).memory Tryd.f3.params.toList Rows.rebaseApartSpec.vars false (#[.slice none 0 0, .slice none 0 0, .slice none 0 0] : Array Value).toList 8 = some ([.nil, .nil, .nil], [], places) :=
 ⟨[], by kernel_rfl⟩
set_option maxRecDepth 100000 in
theorem rebaseApart_lifted (os : Os) (started : os.Started) (H : Type) (enc : TypeId × Value → H) (F : Stop.Interp) :
  ReturnsInHanded {} Tryd.checked os 3 .any ((OpenSpec.ofChange Rows.rebaseApartSpec).preRow enc Tryd.prog Tryd.f3 Rows.rebaseApartRow.domain false Rows.rebaseApartRow.laid) (((OpenSpec.ofChange Rows.rebaseApartSpec).at F).post enc Tryd.prog Tryd.f3 false true false false) := by
 obtain ⟨places, hx⟩ := rebaseApart_reads os enc
 refine returnsInHanded_of_row (C := Tryd.checked) (s := OpenSpec.ofChange Rows.rebaseApartSpec) law_own started (by kernel_rfl) Tryd.func3
  (witness_row_at (enc := enc) (C := Tryd.checked) false (yy52 os) #[.slice none 0 0, .slice none 0 0, .slice none 0 0] rfl (by kernel_rfl) (by kernel_rfl) (by kernel_rfl)
   (OpenSpec.preRow_of_cond 8 hx (by kernel_rfl) (fun k hk => by cases hk) (by kernel_rfl) (rebaseApart_laid_met os))) ?_
 intro W base args ds gs before hval hW _ _ _ hL _ _
 exact rebaseApart_contract H enc W base args ds gs before hval hW (yy98 hL)
theorem rebaseApart_said : Rows.RebaseApartSaid :=
 OpenClaim.holds_of_cond 3 Tryd.f3 rfl rfl rfl rfl rfl rfl rfl ⟨rfl, rfl, rfl, rfl, rfl⟩ rfl rfl rfl rfl rfl (by kernel_rfl) Tryd.func3 (by kernel_rfl)
  (of_decide_eq_true (by kernel_rfl)) (by unfold Func.isWrapper; first | (rw [if_pos (by decide +kernel)]; kernel_rfl) | (rw [if_neg (by decide +kernel)]; exact ⟨rfl, rfl⟩))
  (fun os started H enc _ F => by rw [OpenClaim.pre_eq_preRow]; exact rebaseApart_lifted os started H enc F)
theorem rebaseApart_plain (f : FuncId) (fn : Func) (hf : Tryd.pinned.checked.prog.funcNamed "ropewalk/ropewalklaw16.RebaseApart" = some f) (hfn : Tryd.pinned.checked.prog.funcs[f]? = some fn) :
  false = Tryd.pinned.checked.prog.looks [] ∧ ∀ (j : Nat) t, fn.params[j]? = some t → Tryd.pinned.checked.prog.wantsStandIn t = false := by
 obtain rfl : f = 3 := Option.some.inj ((show Tryd.prog.funcNamed "ropewalk/ropewalklaw16.RebaseApart" = some 3 by kernel_rfl).symm.trans hf) |>.symm
 obtain rfl : fn = Tryd.f3 := (Option.some.inj (Tryd.func3.symm.trans hfn)).symm
 refine ⟨by kernel_rfl, fun j t ht => ?_⟩
 rw [Tryd.params3] at ht
 have hts : t = 22 ∨ t = 23 := by simpa using Array.mem_of_getElem? ht
 rcases hts with rfl | rfl
 ·exact (show Tryd.prog.wantsStandIn 22 = false by kernel_rfl)
 ·exact (show Tryd.prog.wantsStandIn 23 = false by kernel_rfl)
theorem rebaseApart_card : Rows.RebaseApartCardSaid :=
 Claim7.holds_tied_plain_at .later [] _ _ _ _ rebaseApart_said (fun _ h => by cases h) (by kernel_rfl) (fun _ h => by cases h) rebaseApart_row_tie rfl ⟨rfl, rfl⟩ (by kernel_rfl) rfl rebaseApart_plain (by kernel_rfl)
end Go.Proofs.YtjpjdkdbgjipnaaDoor
