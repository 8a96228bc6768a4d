/- Behind a row of commits a transaction is what it is behind them one by one, and an edit goes through all of them: it answers true and changes nothing: the card. Condition: the row's own, that the table of conflicts holds what the program's text lays. -/
import Derived.Test.YtjpjdkdbgjipnaaDoorVLawRebaseRow
import Derived.Test.YtjpjdkdbgjipnaaDoorV47
import Derived.ChangeMaps5
namespace Go.Proofs.YtjpjdkdbgjipnaaDoor
open Go.ChangeShapes Go.WideShapes Go.ChangeAt Go.RowKit
set_option maxRecDepth 100000 in
theorem rebaseRow_contract (H : Type) (enc : TypeId × Value → H) (W : World) (base : Nat) (args : Array Value) (ds gs : List (DataW H)) (before : List MemPlace)
  (hval0 : ∀ (j : Nat) t v, Tryd.f7.params[j]? = some t → args[j]? = some v → Value.okWide Tryd.prog W .any base t v)
  (hW : DataW.Whole enc Tryd.prog Tryd.f7.params.toList Rows.rebaseRowSpec.vars false W args.toList ds gs before) (hC : ConfAt W) :
  Calls Tryd.prog 7 args W fun e W' => ∃ v, e = .returned v ∧ Rows.rebaseRowSpec.post enc Tryd.prog Tryd.f7 false true false false W args v W' := by
 have hval : ∀ (j : Nat) t v, Tryd.f7.params[j]? = some t → args[j]? = some v → Value.okWide Tryd.prog W .any base t v := hval0
 have hW' := hW
 obtain ⟨p, q, hA0, hV, rfl, _, _⟩ := hW
 have hlt : ∀ x ∈ p ++ q, x.block < W.heap.size := fun x hx => hW'.lt x hx
 have hA : DataW.TrodAll enc Tryd.prog W 0 (fun _ => true) true Tryd.f7.params.toList args.toList ds p := hA0
 rw [Tryd.params7] at hA hval
 obtain ⟨v0, v1, v2, d0, d1, d2, p0, p1, p2, rfl, rfl, rfl, h0, h1, h2⟩ := trodAll_three hA
 obtain ⟨rfl, rfl⟩ := trodVars_none hV
 obtain ⟨n0, rfl, rfl, rfl, hw0⟩ := open_int Tryd.underlying3 (hval 0 3 v0 rfl rfl) h0
 have hn0 : -9223372036854775808 ≤ n0 ∧ n0 ≤ 9223372036854775807 := by simpa [Lit.wf, IntKind.min, IntKind.max, IntKind.signed, IntKind.bits] using hw0
 obtain ⟨A1, l1, c1, rfl, hat1, hg1, hlc1, hc1⟩ := yy427 (hval 1 58 v1 rfl rfl) h1 (fun x hx => hlt x (by simp [hx]))
 have hl1 : l1.length ≤ maxLen := by omega
 obtain ⟨A2, l2, c2, rfl, hat2, hg2, hlc2, hc2⟩ := yy460 (hval 2 40 v2 rfl rfl) h2 (fun x hx => hlt x (by simp [hx]))
 have hl2 : l2.length ≤ maxLen := by omega
 clear hA0 hval0
 refine (yy307 n0 A1 l1 c1 A2 l2 c2 hn0 hl1 hg1 hl2 hg2 W ⟨hat1, hlc1⟩ ⟨hat2, hlc2⟩ hc2 hC).mono fun e W' ⟨he, hb⟩ => ?_
 exact ⟨_, he, law_post law_laid (by kernel_rfl) (by kernel_rfl) Tryd.underlying4 rfl hW' rfl hb⟩
theorem rebaseRow_laid_met (os : Os) : laidMet Tryd.prog Rows.rebaseRowRow.laid ((yy264 os).forCall (fun _ _ => 0) ⟨#[], #[.int .i64 0, .slice none 0 0, .slice none 0 0], []⟩).memory :=
 laidMet_of_run' 8 (by kernel_rfl) (by kernel_rfl)
theorem rebaseRow_reads (os : Os) {H : Type} (enc : TypeId × Value → H) : ∃ places, DataW.whole enc Tryd.prog ((yy264 os).forCall (fun _ _ => 0) ⟨#[], #[.int .i64 0, .slice none 0 0, .slice none 0 0], []⟩).memory Tryd.f7.params.toList Rows.rebaseRowSpec.vars false (#[.int .i64 0, .slice none 0 0, .slice none 0 0] : Array Value).toList 8 = some ([.lit (.int .i64 0), .nil, .nil], [], places) :=
 ⟨[], by kernel_rfl⟩
set_option maxRecDepth 100000 in
theorem rebaseRow_lifted (os : Os) (started : os.Started) (H : Type) (enc : TypeId × Value → H) (F : Stop.Interp) :
  ReturnsInHanded {} Tryd.checked os 7 .any ((OpenSpec.ofChange Rows.rebaseRowSpec).preRow enc Tryd.prog Tryd.f7 Rows.rebaseRowRow.domain false Rows.rebaseRowRow.laid) (((OpenSpec.ofChange Rows.rebaseRowSpec).at F).post enc Tryd.prog Tryd.f7 false true false false) := by
 obtain ⟨places, hx⟩ := rebaseRow_reads os enc
 refine returnsInHanded_of_row (C := Tryd.checked) (s := OpenSpec.ofChange Rows.rebaseRowSpec) law_own started (by kernel_rfl) Tryd.func7
  (witness_row_at (enc := enc) (C := Tryd.checked) false (yy264 os) #[.int .i64 0, .slice none 0 0, .slice none 0 0] rfl (by kernel_rfl) (by kernel_rfl) (by kernel_rfl)
   (OpenSpec.preRow_of_cond 8 hx (by kernel_rfl) (fun k hk => by cases hk) (by kernel_rfl) (rebaseRow_laid_met os))) ?_
 intro W base args ds gs before hval hW _ _ _ hL _ _
 exact rebaseRow_contract H enc W base args ds gs before hval hW (yy339 hL)
theorem rebaseRow_said : Rows.RebaseRowSaid :=
 OpenClaim.holds_of_cond 7 Tryd.f7 rfl rfl rfl rfl rfl rfl rfl ⟨rfl, rfl, rfl, rfl, rfl⟩ rfl rfl rfl rfl rfl (by kernel_rfl) Tryd.func7 (by kernel_rfl)
  (of_decide_eq_true (by kernel_rfl)) (by unfold Func.isWrapper; first | (rw [if_pos (by decide +kernel)]; kernel_rfl) | (rw [if_neg (by decide +kernel)]; exact ⟨rfl, rfl⟩))
  (fun os started H enc _ F => by rw [OpenClaim.pre_eq_preRow]; exact rebaseRow_lifted os started H enc F)
theorem rebaseRow_plain (f : FuncId) (fn : Func) (hf : Tryd.pinned.checked.prog.funcNamed "ropewalk/ropewalklaw16.RebaseRow" = some f) (hfn : Tryd.pinned.checked.prog.funcs[f]? = some fn) :
  false = Tryd.pinned.checked.prog.looks [] ∧ ∀ (j : Nat) t, fn.params[j]? = some t → Tryd.pinned.checked.prog.wantsStandIn t = false := by
 obtain rfl : f = 7 := Option.some.inj ((show Tryd.prog.funcNamed "ropewalk/ropewalklaw16.RebaseRow" = some 7 by kernel_rfl).symm.trans hf) |>.symm
 obtain rfl : fn = Tryd.f7 := (Option.some.inj (Tryd.func7.symm.trans hfn)).symm
 refine ⟨by kernel_rfl, fun j t ht => ?_⟩
 rw [Tryd.params7] at ht
 have hts : t = 3 ∨ t = 58 ∨ t = 40 := by simpa using Array.mem_of_getElem? ht
 rcases hts with rfl | rfl | rfl
 ·exact (show Tryd.prog.wantsStandIn 3 = false by kernel_rfl)
 ·exact (show Tryd.prog.wantsStandIn 58 = false by kernel_rfl)
 ·exact (show Tryd.prog.wantsStandIn 40 = false by kernel_rfl)
theorem rebaseRow_card : Rows.RebaseRowCardSaid :=
 Claim7.holds_tied_plain_at .later [] _ _ _ _ rebaseRow_said (fun _ h => by cases h) (by kernel_rfl) (fun _ h => by cases h) rebaseRow_row_tie rfl ⟨rfl, rfl⟩ (by kernel_rfl) rfl rebaseRow_plain (by kernel_rfl)
end Go.Proofs.YtjpjdkdbgjipnaaDoor
