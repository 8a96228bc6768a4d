/- Of any transaction, behind anything that was done, what becomes of it, what is left, and why it is refused, are as the document says; behind any row of commits, too: it answers true and changes nothing: the card. Condition: the row's own, that the table of conflicts holds what the program's text lays. -/
import Derived.Test.YtjpjdkdbgjipnaaGreatDoorULawRebaseAsks
import Derived.Carry
import Derived.Test.YtjpjdkdbgjipnaaGreatDoorU46
import Derived.Test.YtjpjdkdbgjipnaaGreatDoorU47
import Derived.Test.YtjpjdkdbgjipnaaGreatDoorU48
import Derived.ChangeMaps5
namespace Go.Proofs.YtjpjdkdbgjipnaaGreatDoor
open Go.ChangeShapes Go.WideShapes Go.ChangeAt Go.RowKit
set_option maxRecDepth 100000 in
theorem rebaseAsks_contract (H : Type) (enc : TypeId × Value → H) (W : World) (base : Nat) (args : Array Value) (ds gs : List (DataW H)) (before : List MemPlace)
  (hval0 : ∀ (j : Nat) t v, Tryz.f3.params[j]? = some t → args[j]? = some v → Value.okWide Tryz.prog W .any base t v)
  (hW : DataW.Whole enc Tryz.prog Tryz.f3.params.toList Rows.rebaseAsksSpec.vars false W args.toList ds gs before) (hC : ConfAt W) :
  Calls Tryz.prog 3 args W fun e W' => ∃ v, e = .returned v ∧ Rows.rebaseAsksSpec.post enc Tryz.prog Tryz.f3 false true false false W args v W' := by
 have hval : ∀ (j : Nat) t v, Tryz.f3.params[j]? = some t → args[j]? = some v → Value.okWide Tryz.prog W .any base t v := hval0
 have hW' := hW
 obtain ⟨p, q, hA0, hV, rfl, _, _⟩ := hW
 have hlt : ∀ x ∈ p ++ q, x.block < W.heap.size := fun x hx => hW'.lt x hx
 have hA : DataW.TrodAll enc Tryz.prog W 0 (fun _ => true) true Tryz.f3.params.toList args.toList ds p := hA0
 rw [Tryz.params3] at hA hval
 obtain ⟨v0, v1, v2, v3, d0, d1, d2, d3, p0, p1, p2, p3, rfl, rfl, rfl, h0, h1, h2, h3⟩ := trodAll_four hA
 obtain ⟨rfl, rfl⟩ := trodVars_none hV
 obtain ⟨A0, l0, c0, rfl, hat0, hg0, hlc0, hc0⟩ := yy630 (hval 0 22 v0 rfl rfl) h0 (fun x hx => hlt x (by simp [hx]))
 have hl0 : l0.length ≤ maxLen := by omega
 obtain ⟨A1, l1, c1, rfl, hat1, hg1, hlc1, hc1⟩ := yy631 (hval 1 23 v1 rfl rfl) h1 (fun x hx => hlt x (by simp [hx]))
 have hl1 : l1.length ≤ maxLen := by omega
 obtain ⟨a2, rfl, hg2, hat2⟩ := yy719 (hval 2 26 v2 rfl rfl) h2 (fun x hx => hlt x (by simp [hx]))
 obtain ⟨A3, l3, c3, rfl, hat3, hg3, hlc3, hc3⟩ := yy387 (hval 3 27 v3 rfl rfl) h3 (fun x hx => hlt x (by simp [hx]))
 have hl3 : l3.length ≤ maxLen := by omega
 clear hA0 hval0
 refine (yy292 A0 l0 c0 A1 l1 c1 a2 A3 l3 c3 hl0 hg0 hl1 hg1 hg2 hl3 hg3 W ⟨hat0, hlc0⟩ ⟨hat1, hlc1⟩ hat2 ⟨hat3, hlc3⟩ hC).mono fun e W' ⟨he, hb⟩ => ?_
 exact ⟨_, he, law_post law_laid (by kernel_rfl) (by kernel_rfl) Tryz.underlying4 rfl hW' rfl hb⟩
theorem rebaseAsks_laid_met (os : Os) : laidMet Tryz.prog Rows.rebaseAsksRow.laid ((yy293 os).forCall (fun _ _ => 0) ⟨#[], #[.slice none 0 0, .slice none 0 0, .agg #[.int .i64 0, .int .i64 0, .int .i64 0, .string { data := #[] }, .bool false, .slice none 0 0], .slice none 0 0], []⟩).memory :=
 laidMet_of_run' 8 (by kernel_rfl) (by kernel_rfl)
theorem rebaseAsks_reads (os : Os) {H : Type} (enc : TypeId × Value → H) : ∃ places, DataW.whole enc Tryz.prog ((yy293 os).forCall (fun _ _ => 0) ⟨#[], #[.slice none 0 0, .slice none 0 0, .agg #[.int .i64 0, .int .i64 0, .int .i64 0, .string { data := #[] }, .bool false, .slice none 0 0], .slice none 0 0], []⟩).memory Tryz.f3.params.toList Rows.rebaseAsksSpec.vars false (#[.slice none 0 0, .slice none 0 0, .agg #[.int .i64 0, .int .i64 0, .int .i64 0, .string { data := #[] }, .bool false, .slice none 0 0], .slice none 0 0] : Array Value).toList 8 = some ([.nil, .nil, .agg [.lit (.int .i64 0), .lit (.int .i64 0), .lit (.int .i64 0), .lit (.string []), .lit (.bool false), .nil], .nil], [], places) :=
 ⟨[], by kernel_rfl⟩
set_option maxRecDepth 100000 in
theorem rebaseAsks_lifted (os : Os) (started : os.Started) (H : Type) (enc : TypeId × Value → H) (F : Stop.Interp) :
  ReturnsInHanded {} Tryz.checked os 3 .any ((OpenSpec.ofChange Rows.rebaseAsksSpec).preRow enc Tryz.prog Tryz.f3 Rows.rebaseAsksRow.domain false Rows.rebaseAsksRow.laid) (((OpenSpec.ofChange Rows.rebaseAsksSpec).at F).post enc Tryz.prog Tryz.f3 false true false false) := by
 obtain ⟨places, hx⟩ := rebaseAsks_reads os enc
 refine returnsInHanded_of_row (C := Tryz.checked) (s := OpenSpec.ofChange Rows.rebaseAsksSpec) law_own started (by kernel_rfl) Tryz.func3
  (witness_row_at (enc := enc) (C := Tryz.checked) false (yy293 os) #[.slice none 0 0, .slice none 0 0, .agg #[.int .i64 0, .int .i64 0, .int .i64 0, .string { data := #[] }, .bool false, .slice none 0 0], .slice none 0 0] rfl (by kernel_rfl) (by kernel_rfl) (by kernel_rfl)
   (OpenSpec.preRow_of_cond 8 hx (by kernel_rfl) (fun k hk => by cases hk) (by kernel_rfl) (rebaseAsks_laid_met os))) ?_
 intro W base args ds gs before hval hW _ _ _ hL _ _
 exact rebaseAsks_contract H enc W base args ds gs before hval hW (yy363 hL)
theorem rebaseAsks_said : Rows.RebaseAsksSaid :=
 OpenClaim.holds_of_cond 3 Tryz.f3 rfl rfl rfl rfl rfl rfl rfl ⟨rfl, rfl, rfl, rfl, rfl⟩ rfl rfl rfl rfl rfl (by kernel_rfl) Tryz.func3 (by kernel_rfl)
  (of_decide_eq_true (by kernel_rfl)) (by unfold Func.isWrapper; first | (rw [if_pos (by decide +kernel)]; kernel_rfl) | (rw [if_neg (by decide +kernel)]; exact ⟨rfl, rfl⟩))
  (fun os started H enc _ F => by rw [OpenClaim.pre_eq_preRow]; exact rebaseAsks_lifted os started H enc F)
theorem rebaseAsks_plain (f : FuncId) (fn : Func) (hf : Tryz.pinned.checked.prog.funcNamed "ropewalk/ropewalklaw16.RebaseAsks" = some f) (hfn : Tryz.pinned.checked.prog.funcs[f]? = some fn) :
  false = Tryz.pinned.checked.prog.looks [] ∧ ∀ (j : Nat) t, fn.params[j]? = some t → Tryz.pinned.checked.prog.wantsStandIn t = false := by
 obtain rfl : f = 3 := Option.some.inj ((show Tryz.prog.funcNamed "ropewalk/ropewalklaw16.RebaseAsks" = some 3 by kernel_rfl).symm.trans hf) |>.symm
 obtain rfl : fn = Tryz.f3 := (Option.some.inj (Tryz.func3.symm.trans hfn)).symm
 refine ⟨by kernel_rfl, fun j t ht => ?_⟩
 rw [Tryz.params3] at ht
 have hts : t = 22 ∨ t = 23 ∨ t = 26 ∨ t = 27 := by simpa using Array.mem_of_getElem? ht
 rcases hts with rfl | rfl | rfl | rfl
 ·exact (show Tryz.prog.wantsStandIn 22 = false by kernel_rfl)
 ·exact (show Tryz.prog.wantsStandIn 23 = false by kernel_rfl)
 ·exact (show Tryz.prog.wantsStandIn 26 = false by kernel_rfl)
 ·exact (show Tryz.prog.wantsStandIn 27 = false by kernel_rfl)
theorem rebaseAsks_card : Rows.RebaseAsksCardSaid :=
 Claim7.holds_tied_plain_at .later [] _ _ _ _ rebaseAsks_said (fun _ h => by cases h) (by kernel_rfl) (fun _ h => by cases h) rebaseAsks_row_tie rfl ⟨rfl, rfl⟩ (by kernel_rfl) rfl rebaseAsks_plain (by kernel_rfl)
end Go.Proofs.YtjpjdkdbgjipnaaGreatDoor
