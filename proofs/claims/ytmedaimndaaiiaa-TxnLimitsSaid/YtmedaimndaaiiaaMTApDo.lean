/- The landed Do: an edit of a text. Conditions: no more than 2^30 bytes of text. -/
import Derived.Test.YtmedaimndaaiiaaMTApWalk
import Derived.Test.YtmedaimndaaiiaaMTBuild
import Derived.Test.YtmedaimndaaiiaaMOm
/- The landed Do: an edit of a text. Conditions: no more than 2^30 bytes of text. -/
namespace Go.Proofs.Ytmedaimndaaiiaa
open Go.RowKit Go.Deep

/-- What is put behind the outcome for a part. -/
def doPiece (c : CompV) (there : List Nat) : List Nat := if c.kind = 1 then there else if c.kind = 2 then c.text else []
theorem there_eq {vs : List Nat} {l : List CompV} (hw : ∀ c ∈ l, Wh c) {i : Nat} (hi : i < l.length) : thereOf vs l i = (vs.take (sumT (l.take i) + l[i].n).toNat).drop (sumT (l.take i)).toNat := by
  have h1 : sumT (l.take i) = (inS (l.take i) : Int) := by rw [sumT, sumT_in _ _ fun c hc => hw c (List.mem_of_mem_take hc)]; omega
  have h2 := (hw _ (List.getElem_mem hi)).n
  rw [h1, h2, thereOf, List.take_succ_eq_append_getElem hi, inS_snoc, Int.toNat_natCast, show ((inS (l.take i) : Int) + (inN l[i] : Int)).toNat = inS (l.take i) + inN l[i] by omega, List.drop_take]
theorem doRun_step {vs : List Nat} {l : List CompV} (hw : ∀ c ∈ l, Wh c) {i : Nat} (hi : i < l.length) : (doRun vs (l.take (i + 1))).2 = (doRun vs (l.take i)).2 ++ doPiece l[i] (E (thereOf vs l i)) := by
  rw [there_eq hw hi, List.take_succ_eq_append_getElem hi, doRun_snoc, doStep, doRun_at, doPiece]
  split
  · rfl
  · split
    · rfl
    · simp

set_option maxHeartbeats 4000000 in
set_option maxRecDepth 100000 in
/-- What Do calls at each part. -/
theorem showDo (B g : Nat) (o T : List Nat) (y : CompV) (w : World) (h : BldAt B g o w) (hB : B ≤ w.heap.size) (hl : o.length + (doPiece y T).length ≤ 70368744177664) :
    Calls Try.prog 64 (#[.agg #[.int .i64 y.kind, .int .i64 y.n, .string (bstr y.text)], .string (bstr T)] ++ #[.pointer (some ⟨g, 0, none⟩)]) w fun e w' => e = .returned (.tuple #[]) ∧ BldAt B g (o ++ doPiece y T) w' ∧ Below B w w' := by
  obtain ⟨kd, n, tx⟩ := y
  have HH := Lib.hid h; clear h
  have hbw : ∀ o', Below B w (w.alloc o') := fun o' => (Below.refl _ _).alloc hB _
  have hbd : ∀ o', BldAt B g o (w.alloc o') := fun o' => HH.out.below ((Below.refl _ _).alloc (Nat.le_refl _) _)
  have HBW := Lib.hid hbw; clear hbw
  have HBD := Lib.hid hbd; clear hbd
  have HR := Lib.hid (part_row w kd n tx)
  have y0 : (w.alloc (.cells #[.int .i64 kd, .int .i64 n, .string (bstr tx)] 29)).cell? ⟨w.heap.size, 0, none⟩ = some (.int .i64 kd) := HR.out.cell (i := 0) (by omega)
  have y2 : (w.alloc (.cells #[.int .i64 kd, .int .i64 n, .string (bstr tx)] 29)).cell? ⟨w.heap.size, 2, none⟩ = some (.string (bstr tx)) := HR.out.cell (i := 2) (by omega)
  by_cases h1 : kd = 1
  · subst h1
    have GW := Lib.hid (writeString_any B g o T _ (HBD.out (.cells #[.int .i64 1, .int .i64 n, .string (bstr tx)] 29)) hl (by simp; omega))
    go_enter Try.func64, Try.ntmps64
    go_wp2_with fail
    refine GW.out.mono ?_
    rintro e w1 ⟨rfl, hd, hb⟩
    have HD := Lib.hid hd; clear hd
    have HB := Lib.hid hb; clear hb
    go_wp2
    go_end0
    exact ⟨rfl, HD.out, (HBW.out _).trans HB.out⟩
  · have g1 : (kd == 1) = false := beq_eq_false_iff_ne.2 h1
    by_cases h2 : kd = 2
    · subst h2
      have GW := Lib.hid (writeString_any B g o tx _ (HBD.out (.cells #[.int .i64 2, .int .i64 n, .string (bstr tx)] 29)) hl (by simp; omega))
      clear h1
      go_enter Try.func64, Try.ntmps64
      go_wp2_with fail
      refine GW.out.mono ?_
      rintro e w1 ⟨rfl, hd, hb⟩
      have HD := Lib.hid hd; clear hd
      have HB := Lib.hid hb; clear hb
      go_wp2
      go_end0
      exact ⟨rfl, HD.out, (HBW.out _).trans HB.out⟩
    · have g2 : (kd == 2) = false := beq_eq_false_iff_ne.2 h2
      have HP : Hid (doPiece ⟨kd, n, tx⟩ T = []) := by show _ = _; rw [doPiece, if_neg h1, if_neg h2]
      clear h1 h2
      go_enter Try.func64, Try.ntmps64
      go_wp2
      go_end0
      refine ⟨rfl, ?_, HBW.out _⟩
      rw [HP.out, List.append_nil]
      exact HBD.out _

/-- The builder behind some parts. -/
def DoInv (W : World) (t : List Nat) (l : List CompV) (i : Nat) (w : World) : Prop :=
  BldAt W.heap.size W.heap.size (doRun (cps t) (l.take i)).2 w ∧ Below W.heap.size W w
theorem piece_le (vs : List Nat) (l : List CompV) (i : Nat) : (E (thereOf vs l i)).length ≤ (E vs).length := by
  rw [thereOf]
  have h1 := E_take_len (vs.drop (inS (l.take i))) (inS (l.take (i + 1)) - inS (l.take i))
  have h2 := E_split vs (inS (l.take i))
  have h3 := congrArg List.length h2
  rw [List.length_append] at h3
  omega
set_option maxHeartbeats 4000000 in
set_option maxRecDepth 100000 in
theorem apDo_walk (t : List Nat) (A : Option Addr) (c : Nat) (l : List CompV) (hb : ∀ x ∈ t, x < 256) (htl : t.length ≤ 1073741824) (hl : l.length ≤ maxLen) (hf : Fine1 l) (htt : tlen l ≤ 1073741824) (w : World) (hc : CompsAt w A l) :
    Calls Try.prog 63 #[.string (bstr t), .slice A l.length c, .func (.func 64) #[] #[.pointer (some ⟨w.heap.size, 0, none⟩)]] (w.alloc (.cells #[.pointer none, .slice none 0 0] 89)) fun e w' => WalkEnd (DoInv w t l) t l e w' :=
  apWalk_any 64 (enters_of_func Try.func64 (by kernel_rfl) rfl) _ t hb htl A c l hl hf (DoInv w t l)
    (fun i w1 w2 h hbel => ⟨h.1.below hbel, h.2.trans (hbel.mono h.2.size)⟩) (fun i w1 h => hc.below h.2)
    (fun hz vs hv hn i w1 hi h => by
      have hok := ok_of hz
      have hcp := cps_of hv
      refine (showDo w.heap.size w.heap.size _ (E (thereOf vs l i)) l[i] w1 h.1 h.2.size ?_).mono ?_
      · have h1 := doRun_len (cps t) (by rw [hcp, hv.bytes]; exact htl) (l.take i)
        have h2 := tlen_take l i
        have h4 : (l.take i).length ≤ 100 := by rw [List.length_take]; have := hok.len; omega
        have h5 : (l.take i).length * 1073741824 ≤ 100 * 1073741824 := Nat.mul_le_mul_right _ h4
        have h6 : (doPiece l[i] (E (thereOf vs l i))).length ≤ 1099511627776 := by
          rw [doPiece]
          split
          · have := piece_le vs l i; rw [hv.bytes] at this; omega
          · split
            · exact (hf _ (List.getElem_mem hi)).2
            · simp
        omega
      · rintro e w2 ⟨rfl, hd, hbel⟩
        refine ⟨rfl, ?_, h.2.trans hbel⟩
        rw [hcp] at hd ⊢
        rw [doRun_step hok.wh hi]
        exact hd)
    _ ⟨by simpa [doRun] using BldAt.start w, (Below.refl _ _).alloc (Nat.le_refl _) _⟩
set_option maxHeartbeats 4000000 in
set_option maxRecDepth 100000 in
theorem apDo_any (t : List Nat) (A : Option Addr) (c : Nat) (l : List CompV) (hb : ∀ x ∈ t, x < 256) (htl : t.length ≤ 1073741824) (hl : l.length ≤ maxLen) (hf : Fine1 l) (htt : tlen l ≤ 1073741824) (w : World) (hc : CompsAt w A l) :
    Calls Try.prog 50 #[.string (bstr t), .slice A l.length c] w fun e w' => DoEnd t l e ∧ Below w.heap.size w w' := by
  have HW := Lib.hid (apDo_walk t A c l hb htl hl hf htt w hc)
  have hmf : ∀ (fn : Fn) (first cap : Array Value) (w : World), (Instr.makeFunc fn first cap).run Try.prog w = .ok (.func fn first cap) w := fun _ _ _ _ => rfl
  have HS := Lib.hid (fun o w1 (h : BldAt w.heap.size w.heap.size o w1) h2 => bldString_any w.heap.size w.heap.size o w1 h h2)
  clear hb hf hc
  go_enter Try.func50, Try.ntmps50
  go_wp2_with fail
  refine HW.out.mono ?_
  clear HW
  rintro e w1 (⟨hz, rfl, hi⟩ | ⟨hz, hv, rfl, hi⟩ | ⟨hz, vs, hv, (⟨hne, rfl, hi⟩ | ⟨heq, rfl, hi⟩)⟩)
  · have HI := Lib.hid hi; clear hi
    have HEND : Hid (DoEnd t l (.returned (.tuple #[.string (bstr []), .int .i64 (rCheck l : Int)]))) := .inl ⟨hz, rfl⟩
    clear hz
    go_wp2_with fail
    refine (HS.out _ w1 HI.out.1 HI.out.2.size).mono ?_
    rintro e w2 ⟨rfl, hb2⟩
    have HB2 : Hid (Below w.heap.size w w2) := HI.out.2.trans hb2
    clear hb2
    go_wp2
    go_ret2
    exact ⟨HEND.out, HB2.out⟩
  · have HI := Lib.hid hi; clear hi
    have HEND : Hid (DoEnd t l (.returned (.tuple #[.string (bstr []), .int .i64 2]))) := .inr (.inl ⟨hz, hv, rfl⟩)
    clear hz hv
    go_wp2_with fail
    refine (HS.out _ w1 HI.out.1 HI.out.2.size).mono ?_
    rintro e w2 ⟨rfl, hb2⟩
    have HB2 : Hid (Below w.heap.size w w2) := HI.out.2.trans hb2
    clear hb2
    go_wp2
    go_ret2
    exact ⟨HEND.out, HB2.out⟩
  · have HI := Lib.hid hi; clear hi
    have HEND : Hid (DoEnd t l (.returned (.tuple #[.string (bstr []), .int .i64 11]))) := .inr (.inr ⟨hz, vs, hv, .inl ⟨hne, rfl⟩⟩)
    clear hz hv hne
    go_wp2_with fail
    refine (HS.out _ w1 HI.out.1 HI.out.2.size).mono ?_
    rintro e w2 ⟨rfl, hb2⟩
    have HB2 : Hid (Below w.heap.size w w2) := HI.out.2.trans hb2
    clear hb2
    go_wp2
    go_ret2
    exact ⟨HEND.out, HB2.out⟩
  · have hb1 := hi.1
    rw [List.take_length, cps_of hv] at hb1
    have HI := Lib.hid hi; clear hi
    have HB1 := Lib.hid hb1; clear hb1
    have HEND : Hid (DoEnd t l (.returned (.tuple #[.string (bstr (doRun vs l).2), .int .i64 0]))) := .inr (.inr ⟨hz, vs, hv, .inr ⟨heq, rfl⟩⟩)
    clear hz hv heq
    go_wp2_with fail
    refine (HS.out _ w1 HB1.out HI.out.2.size).mono ?_
    rintro e w2 ⟨rfl, hb2⟩
    have HB2 : Hid (Below w.heap.size w w2) := HI.out.2.trans hb2
    clear hb2
    go_wp2
    go_ret2
    exact ⟨HEND.out, HB2.out⟩
end Go.Proofs.Ytmedaimndaaiiaa
