/- CodecWrites holds: whatever is written stands as the document says, one behind the other, and what can't be written spoils the writer: whatever items the law is called with, it answers true and changes nothing. No condition. (Merged of 2 texts.) -/
import Derived.Test.YtkapfijokmajlaaQRd
import Derived.ChangeMaps5
/- The walk of the law CodecWrites: whatever items it is called with, it answers true; what was there stays as it was. No condition beyond lengths of memory. -/
namespace Go.Proofs.Ytkapfijokmajlaa
open Go.RowKit Go.Deep

set_option maxRecDepth 100000 in
theorem made_items_nil (A : Option Addr) (cap : Nat) (w : World) :
    Calls Try.prog 10 #[.slice A 0 cap] w fun e w' => DoneEnd w.heap.size (inks (([] : List ItemV).map iItem)) w' e ∧ Below w.heap.size w w' := by
  have GD := Lib.hid (fun w' (hh : OutAt w w.heap.size noInk w') => refOutDone_any w w.heap.size noInk w' hh)
  go_enter Try.func10, Try.ntmps10
  go_wp2
  refine wp_loop_rounds 1 ?_
  rw [rounds_succ]
  go_wp2_with fail
  refine (GD.out _ (OutAt.start w)).mono ?_
  rintro e w2 ⟨hd, rfl⟩
  rcases hd with ⟨h1, rfl⟩ | ⟨h1, A5, k5, rfl, ho5⟩
  · cases h1
  · have HO5 := Lib.hid ho5; clear ho5
    go_wp2
    go_ret2
    exact ⟨.inr ⟨rfl, A5, k5, rfl, HO5.out⟩, (OutAt.start w).upto⟩
set_option maxRecDepth 100000 in
theorem written_items_nil (A : Option Addr) (cap : Nat) (w : World) :
    Calls Try.prog 9 #[.slice A 0 cap] w fun e w' => WrittenEnd w.heap.size (inks (([] : List ItemV).map iItem)) w' e ∧ Below w.heap.size w w' := by
  have GD := Lib.hid (fun O w' (hh : WrAt w w.heap.size ([], false) O w') => wrDone_any w w.heap.size ([], false) O (by simp) w' hh)
  go_enter Try.func9, Try.ntmps9
  go_wp2
  refine wp_loop_rounds 1 ?_
  rw [rounds_succ]
  go_wp2_with fail
  refine (GD.out _ _ (WrAt.start w)).mono ?_
  rintro e w2 ⟨hd, hb⟩
  have HB := Lib.hid hb; clear hb
  rcases hd with ⟨h1, rfl⟩ | ⟨h1, A5, k5, rfl, ho5⟩
  · cases h1
  · have HO5 := Lib.hid ho5; clear ho5
    go_wp2
    go_ret2
    exact ⟨.inr ⟨rfl, A5, k5, rfl, HO5.out.mono (WrAt.start w).upto.size⟩, (WrAt.start w).upto.trans (HB.out.mono (WrAt.start w).upto.size)⟩
theorem made_items {A : Option Addr} {l : List ItemV} (cap : Nat) (hln : l.length ≤ 3000) (hg : ∀ y ∈ l, y.Good) (hl : (l.map roomItem).sum ≤ 1099511627000) (w : World) (hA : ItemsAt w A l) :
    Calls Try.prog 10 #[.slice A l.length cap] w fun e w' => DoneEnd w.heap.size (inks (l.map iItem)) w' e ∧ Below w.heap.size w w' := by
  cases l with
  | nil => exact made_items_nil A cap w
  | cons x l =>
    obtain ⟨b, off, rfl, _⟩ := hA.form (by simp)
    exact made_row b off cap (x :: l) hln hg hl w hA
theorem written_items {A : Option Addr} {l : List ItemV} (cap : Nat) (hln : l.length ≤ 3000) (hg : ∀ y ∈ l, y.Good) (hl : (l.map roomItem).sum ≤ 1099511627000) (w : World) (hA : ItemsAt w A l) :
    Calls Try.prog 9 #[.slice A l.length cap] w fun e w' => WrittenEnd w.heap.size (inks (l.map iItem)) w' e ∧ Below w.heap.size w w' := by
  cases l with
  | nil => exact written_items_nil A cap w
  | cons x l =>
    obtain ⟨b, off, rfl, _⟩ := hA.form (by simp)
    exact written_row b off cap (x :: l) hln hg hl w hA

set_option maxHeartbeats 1000000 in
set_option maxRecDepth 100000 in
theorem codecWrites_any {A : Option Addr} {l : List ItemV} (cap : Nat) (hl : l.length ≤ maxLen) (hg : ∀ y ∈ l, y.Good) (w : World) (hA : ItemsAt w A l) :
    Calls Try.prog 3 #[.slice A l.length cap] w fun e w' => e = .returned (.bool true) ∧ Below w.heap.size w w' := by
  have GS := Lib.hid (small_at cap hl hg w hA)
  have GA := Lib.hid (fun w => awake_any w)
  have HA := Lib.hid hA; clear hA
  have HG := Lib.hid hg; clear hg
  by_cases hw : itemsWeight l ≤ 3000
  · rw [decide_eq_true hw] at GS
    have GW := Lib.hid (fun w' (hh : ItemsAt w' A l) => written_items cap (items_count l hw) HG.out (by have := roomItems_le l hw; omega) w' hh)
    have GM := Lib.hid (fun w' (hh : ItemsAt w' A l) => made_items cap (items_count l hw) HG.out (by have := roomItems_le l hw; omega) w' hh)
    have GN := Lib.hid (fun w => wrNum_nil 1 (by omega) w)
    have GD := Lib.hid (fun w => wrDone_nil w)
    obtain ⟨C, HC⟩ : ∃ C, Hid (inks (l.map iItem) = C) := ⟨_, rfl⟩
    rw [HC.out] at GW GM
    clear hw
    go_enter Try.func3, Try.ntmps3
    go_wp2_with fail
    refine GS.out.mono ?_
    rintro e w1 ⟨rfl, hb1⟩
    have HB1 := Lib.hid hb1; clear hb1
    go_wp2_with fail
    refine (GW.out _ (HA.out.below HB1.out)).mono ?_
    rintro e w2 ⟨hd2, hb2⟩
    have HB2 : Hid (Below w.heap.size w w2) := HB1.out.trans (hb2.mono HB1.out.size)
    clear hb2
    rcases hd2 with ⟨h1, rfl⟩ | ⟨h1, A2, k2, rfl, ho2⟩
    · have H1 := Lib.hid h1; clear h1
      go_wp2_with fail
      refine (GM.out _ (HA.out.below HB2.out)).mono ?_
      rintro e w3 ⟨hd3, hb3⟩
      have HB3 : Hid (Below w.heap.size w w3) := HB2.out.trans (hb3.mono HB2.out.size)
      rcases hd3 with ⟨_, rfl⟩ | ⟨h2, _⟩
      · have hcv := fun w : World => run_convert_bytes_nil w 25 5 Try.underlying25 Try.underlying5 0 0 9 Try.underlying9
        clear hb3
        go_wp2_with fail
        refine (GD.out _).mono ?_
        rintro e w' ⟨rfl, rfl⟩
        go_wp2_with fail
        refine (GN.out _).mono ?_
        rintro e w4 ⟨rfl, hb4⟩
        have HB4 : Hid (Below w.heap.size w w4) := HB3.out.trans (hb4.mono HB3.out.size)
        clear hb4
        go_wp2_with fail
        refine (GA.out _).mono ?_
        rintro e w5 ⟨rfl, hb5⟩
        have HB5 : Hid (Below w.heap.size w w5) := HB4.out.trans (hb5.mono HB4.out.size)
        clear hb5
        go_wp2
        go_ret
        exact ⟨rfl, HB5.out⟩
      · rw [H1.out] at h2; cases h2
    · have H1 := Lib.hid h1; clear h1
      have HA2 := Lib.hid (BytesAt.of_own ho2 rfl); clear ho2
      go_wp2_with fail
      refine (GM.out _ (HA.out.below HB2.out)).mono ?_
      rintro e w3 ⟨hd3, hb3⟩
      have HB3 : Hid (Below w.heap.size w w3) := HB2.out.trans (hb3.mono HB2.out.size)
      rcases hd3 with ⟨h2, _⟩ | ⟨_, A3, k3, rfl, ho3⟩
      · rw [H1.out] at h2; cases h2
      · have hcv2 := (HA2.out.below hb3).conv k2 9 Try.underlying9
        have hcv3 := (BytesAt.of_own ho3 rfl).conv k3 9 Try.underlying9
        clear hb3 ho3
        go_wp2_with fail
        refine (GD.out _).mono ?_
        rintro e w' ⟨rfl, rfl⟩
        go_wp2_with fail
        refine (GN.out _).mono ?_
        rintro e w4 ⟨rfl, hb4⟩
        have HB4 : Hid (Below w.heap.size w w4) := HB3.out.trans (hb4.mono HB3.out.size)
        clear hb4
        go_wp2_with fail
        refine (GA.out _).mono ?_
        rintro e w5 ⟨rfl, hb5⟩
        have HB5 : Hid (Below w.heap.size w w5) := HB4.out.trans (hb5.mono HB4.out.size)
        clear hb5
        go_wp2
        go_ret
        exact ⟨rfl, HB5.out⟩
  · rw [decide_eq_false hw] at GS
    clear hw
    go_enter Try.func3, Try.ntmps3
    go_wp2_with fail
    refine GS.out.mono ?_
    rintro e w1 ⟨rfl, hb1⟩
    have HB1 := Lib.hid hb1; clear hb1
    go_wp2_with fail
    refine (GA.out _).mono ?_
    rintro e w5 ⟨rfl, hb5⟩
    have HB5 : Hid (Below w.heap.size w w5) := HB1.out.trans (hb5.mono HB1.out.size)
    clear hb5
    go_wp2
    go_ret
    exact ⟨rfl, HB5.out⟩
end Go.Proofs.Ytkapfijokmajlaa

/- CodecWrites holds: whatever is written stands as the document says, one behind the other, and what can't be written spoils the writer: whatever items the law is called with, it answers true and changes nothing. No condition. -/
namespace Go.Proofs.Ytkapfijokmajlaa
open Go.ChangeShapes Go.WideShapes Go.ChangeAt Go.RowKit

set_option maxRecDepth 100000 in
theorem codecWrites_lifted (os : Os) (started : os.Started) (H : Type) (enc : TypeId × Value → H) :
    ReturnsInHanded {} Try.checked os 3 .any (Rows.codecWritesSpec.pre6 enc Try.prog Try.f3 Rows.codecWritesRow.domain false) (Rows.codecWritesSpec.post enc Try.prog Try.f3 false true false false) := by
  refine returnsInHanded_of_change (C := Try.checked) law_own started (by kernel_rfl) Try.func3
    (ChangeSpec.witness6 (enc := enc) (C := Try.checked) false ⟨#[], #[.slice none 0 0], []⟩ 8 (by kernel_rfl) (by kernel_rfl) (by kernel_rfl) (by kernel_rfl)) ?_
  intro W base args ds gs before hval0 hW _ _
  have hval : ∀ (j : Nat) t v, Try.f3.params[j]? = some t → args[j]? = some v → Value.okWide Try.prog W .any base t v := hval0
  have hW' := hW
  obtain ⟨p, q, hA0, hV, rfl, _, _⟩ := hW
  have hlt : ∀ x ∈ p ++ q, x.block < W.heap.size := fun x hx => hW'.lt x hx
  have hA : DataW.TrodAll enc Try.prog W 0 (fun _ => true) true Try.f3.params.toList args.toList ds p := hA0
  rw [Try.params3] at hA hval
  obtain ⟨v0, d0, rfl, rfl, h0⟩ := trodAll_one hA
  obtain ⟨rfl, rfl⟩ := trodVars_none hV
  obtain ⟨A, l, c, rfl, hat, hg, hlc, hc⟩ := open_items (hval 0 22 v0 rfl rfl) h0 (fun x hx => hlt x (by simpa using hx))
  clear hA0 hval0
  refine (codecWrites_any c (by omega) hg W hat).mono fun e W' ⟨he, hb⟩ => ?_
  exact ⟨_, he, law_post law_laid (by kernel_rfl) (by kernel_rfl) Try.underlying4 rfl hW' rfl hb⟩

theorem codecWrites_holds : Rows.CodecWritesSaid :=
  OpenClaim.holds_of_wide 3 Try.f3 rfl rfl rfl rfl rfl rfl rfl ⟨rfl, rfl, rfl, rfl, rfl⟩ rfl rfl rfl rfl rfl (by kernel_rfl) Try.func3 (by kernel_rfl)
    (of_decide_eq_true (by kernel_rfl)) (by unfold Func.isWrapper; first | (rw [if_pos (by decide +kernel)]; kernel_rfl) | (rw [if_neg (by decide +kernel)]; exact ⟨rfl, rfl⟩))
    (fun os started H enc _ => codecWrites_lifted os started H enc)
end Go.Proofs.Ytkapfijokmajlaa
