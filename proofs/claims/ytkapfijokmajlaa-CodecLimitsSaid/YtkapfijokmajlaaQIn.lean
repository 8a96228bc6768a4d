/- The document's own SameActs: true of two that read as the same. Condition: no slice is longer than memory. (Merged of 9 texts.) -/
import Derived.Test.YtkapfijokmajlaaQNum
import Derived.Test.YtkapfijokmajlaaQOut
import Derived.Test.YtkapfijokmajlaaQBase
import Derived.Test.YtkapfijokmajlaaQParts
import Derived.Deep.DeepAppendWide
/- The document's own reader, ropewalkref1.In: where it lies, and the contract of its Num. No condition beyond bytes and lengths. -/
namespace Go.Proofs.Ytkapfijokmajlaa
open Go.RowKit Go.Deep

/-- Only the block g may have been written; what is new lies behind. -/
structure Only (g : Nat) (w w' : World) : Prop where
  os : w'.os = w.os
  tape : w'.tape = w.tape
  output : w'.output = w.output
  size : w.heap.size ≤ w'.heap.size
  block : ∀ k, k < w.heap.size → k ≠ g → w'.heap[k]? = w.heap[k]?
theorem Only.refl (g : Nat) (w : World) : Only g w w := ⟨rfl, rfl, rfl, Nat.le_refl _, fun _ _ _ => rfl⟩
theorem Only.trans {g : Nat} {a b c : World} (h : Only g a b) (k : Only g b c) : Only g a c :=
  ⟨k.os.trans h.os, k.tape.trans h.tape, k.output.trans h.output, Nat.le_trans h.size k.size, fun i hi hg => (k.block i (Nat.lt_of_lt_of_le hi h.size) hg).trans (h.block i hi hg)⟩
theorem Only.of_below {g : Nat} {w w' : World} (h : Below w.heap.size w w') : Only g w w' := ⟨h.os, h.tape, h.output, h.size, fun k hk _ => h.block k hk⟩
theorem Only.drew {g : Nat} {a w : World} (h : Only g a w) : Only g a w.drew := ⟨h.os, h.tape, h.output, h.size, h.block⟩
theorem Only.set {g : Nat} {a w : World} (h : Only g a w) (i : Nat) (v : Value) : Only g a (w.setCell ⟨g, i, none⟩ v) :=
  h.trans ⟨rfl, rfl, rfl, by simp [World.setCell], fun k _ hk => Below.heap_setCell _ _ _ _ hk⟩
theorem Only.below {g : Nat} {W w w' : World} (h : Only g w w') (hb : Below W.heap.size W w) (hg : W.heap.size ≤ g) : Below W.heap.size W w' :=
  hb.trans ⟨h.os, h.tape, h.output, h.size, fun k hk => h.block k (Nat.lt_of_lt_of_le hk hb.size) (by omega)⟩

/-- What is left, and the first error. -/
abbrev Rd := List Nat × Nat
/-- The block g of two cells holds the reader: the slice of what is left, of bytes that lie in W, and the error. -/
def InAt (W : World) (g : Nat) (s : Rd) (w : World) : Prop :=
  ∃ A c, w.rowIs g 36 2 (fun j => if j = 0 then .slice A s.1.length c else .int .i64 (s.2 : Int)) ∧ BytesAt W A s.1 ∧ s.1.length ≤ c ∧ c ≤ maxLen ∧ (∀ x ∈ s.1, x < 256) ∧ W.heap.size ≤ g ∧ Below W.heap.size W w
theorem InAt.kept {W : World} {g g' : Nat} {s : Rd} {w w' : World} (h : InAt W g s w) (ho : Only g' w w') (hg : g ≠ g') (hW : W.heap.size ≤ g') : InAt W g s w' := by
  obtain ⟨A, c, hr, hA, hc, hm, hx, hge, hb⟩ := h
  exact ⟨A, c, hr.of_block (ho.block g hr.lt hg), hA, hc, hm, hx, hge, ho.below hb hW⟩
theorem InAt.drew {W : World} {g : Nat} {s : Rd} {w : World} (h : InAt W g s w) : InAt W g s w.drew := by
  obtain ⟨A, c, hr, hA, hc, hm, hx, hge, hb⟩ := h
  exact ⟨A, c, hr.drew, hA, hc, hm, hx, hge, hb.drew⟩

/-- P4.2: what a number read leaves, and answers. -/
def rdNum (s : Rd) : Rd × Nat :=
  if s.2 = 0 then (if (rg 0 0 s.1).2 = 0 then ((s.1, 2), 0) else ((s.1.drop (rg 0 0 s.1).2, 0), (rg 0 0 s.1).1)) else (s, 0)
theorem rg_within (l : List Nat) : ∀ acc i, (rg acc i l).2 ≤ i + l.length := by
  induction l with
  | nil => intro acc i; simp [rg]
  | cons c l ih =>
    intro acc i
    rw [rg]
    have := ih (acc * 128 + c % 128) (i + 1)
    repeat' split
    all_goals simp
    all_goals omega

set_option maxRecDepth 100000 in
theorem refGet_nil (A : Option Addr) (cap : Nat) (w : World) :
    Calls Try.prog 56 #[.slice A 0 cap] w fun e w' => e = .returned (.tuple #[.int .i64 (0 : Int), .int .i64 (0 : Int)]) ∧ w = w' := by
  go_enter Try.func56, Try.ntmps56
  go_wp2
  go_loop [4, 5] (fun n i => i = .int .i64 0 ∧ n = .int .i64 0) (fun _ i => 0)
  case atStart => exact ⟨rfl, rfl⟩
  case round =>
    obtain ⟨rfl, rfl⟩ := hrel
    go_wp2
    go_ret2
    exact ⟨rfl, rfl⟩
theorem refGet_at {w : World} {A : Option Addr} {l : List Nat} (h : BytesAt w A l) (hx : ∀ x ∈ l, x < 256) (hl : l.length ≤ maxLen) (cap : Nat) :
    Calls Try.prog 56 #[.slice A l.length cap] w fun e w' => e = .returned (.tuple #[.int .i64 ((rg 0 0 l).1 : Nat), .int .i64 ((rg 0 0 l).2 : Nat)]) ∧ w = w' := by
  rcases h with rfl | ⟨b, off, rfl, _, hc⟩
  · exact refGet_nil A cap w
  · exact refGet_any b off cap l hl hx w hc

set_option maxHeartbeats 1000000 in
set_option maxRecDepth 100000 in
theorem refInNum_any (W : World) (g : Nat) (s : Rd) (w : World) (h : InAt W g s w) :
    Calls Try.prog 16 #[.pointer (some ⟨g, 0, none⟩)] w fun e w' => e = .returned (.int .i64 ((rdNum s).2 : Nat)) ∧ InAt W g (rdNum s).1 w' ∧ Only g w w' := by
  obtain ⟨A, c, hr, hA, hc, hm, hx, hge, hb⟩ := h
  obtain ⟨L, E⟩ := s
  simp only at hr hA hc hx
  have c0 := hr.cell (i := 0) (by omega)
  have c1 := hr.cell (i := 1) (by omega)
  have f0 := hr.frozen 0
  have f1 := hr.frozen 1
  rw [if_pos rfl] at c0
  rw [if_neg (by omega)] at c1
  have HR := Lib.hid hr; clear hr
  have HA := Lib.hid hA; clear hA
  have HX := Lib.hid hx; clear hx
  have HB := Lib.hid hb; clear hb
  have hm' : L.length ≤ maxLen := by omega
  have G := Lib.hid (refGet_at (HA.out.below HB.out) HX.out hm' c)
  have HW := Lib.hid (rg_within L 0 0)
  obtain ⟨v, HV⟩ : ∃ v, Hid ((rg 0 0 L).1 = v) := ⟨_, rfl⟩
  obtain ⟨k, HK⟩ : ∃ k, Hid ((rg 0 0 L).2 = k) := ⟨_, rfl⟩
  rw [HV.out, HK.out] at G
  rw [HK.out] at HW
  by_cases he : E = 0
  · subst he
    by_cases hk : k = 0
    · subst hk
      have e : Hid (rdNum (L, 0) = ((L, 2), 0)) := by show rdNum (L, 0) = _; rw [rdNum, if_pos rfl, if_pos HK.out]
      rw [e.out]
      go_enter Try.func16, Try.ntmps16
      go_wp2_with (go_at_call 56; refine (G.out).mono ?_; rintro e w' ⟨rfl, rfl⟩)
      go_ret
      refine ⟨rfl, ⟨A, c, (HR.out.set 1 _).congr fun i hi => ?_, HA.out, hc, hm, HX.out, hge, HB.out.setCell (p := ⟨g, 1, none⟩) hge _⟩, (Only.refl _ _).set 1 _⟩
      by_cases hi0 : i = 0
      · subst hi0; rfl
      · rw [if_pos (by omega), if_neg hi0]; rfl
    · have e : Hid (rdNum (L, 0) = ((L.drop k, 0), v)) := by show rdNum (L, 0) = _; rw [rdNum, if_pos rfl, HK.out, HV.out, if_neg hk]
      rw [e.out]
      have SL := fun w => slice_low A L.length c k (by have := HW.out; omega) w
      go_enter Try.func16, Try.ntmps16
      go_wp2_with (go_at_call 56; refine (G.out).mono ?_; rintro e w' ⟨rfl, rfl⟩)
      go_ret
      have hle : k ≤ L.length := by have := HW.out; omega
      refine ⟨rfl, ⟨addrLow A k c, c - k, (HR.out.set 0 _).congr fun i hi => ?_, HA.out.low c k hc, by simp; omega, by omega, fun x hx => HX.out x (List.mem_of_mem_drop hx), hge, HB.out.setCell (p := ⟨g, 0, none⟩) hge _⟩, (Only.refl _ _).set 0 _⟩
      by_cases hi0 : i = 0
      · rw [if_pos hi0, if_pos hi0, List.length_drop]
      · rw [if_neg hi0, if_neg hi0, if_neg hi0]
  · have e : Hid (rdNum (L, E) = ((L, E), 0)) := by show rdNum (L, E) = _; rw [rdNum, if_neg he]
    rw [e.out]
    go_enter Try.func16, Try.ntmps16
    go_wp2_with fail
    go_ret
    exact ⟨rfl, ⟨A, c, HR.out, HA.out, hc, hm, HX.out, hge, HB.out⟩, Only.refl _ _⟩
end Go.Proofs.Ytkapfijokmajlaa

/- The document's own reader: Flag and count. No condition beyond those of the reader. -/
namespace Go.Proofs.Ytkapfijokmajlaa
open Go.RowKit Go.Deep

theorem rg_le (l : List Nat) : ∀ acc i, (rg acc i l).1 ≤ 1099511627776 := by
  induction l with
  | nil => intro acc i; simp [rg]
  | cons c l ih =>
    intro acc i
    rw [rg]
    have := ih (acc * 128 + c % 128) (i + 1)
    repeat' split
    all_goals simp
    all_goals omega
theorem rdNum_le (s : Rd) : (rdNum s).2 ≤ 1099511627776 := by
  unfold rdNum
  have := rg_le s.1 0 0
  repeat' split
  all_goals simp
  all_goals omega
/-- A later error. -/
theorem InAt.err {W : World} {g : Nat} {s : Rd} {w : World} (h : InAt W g s w) (e : Nat) : InAt W g (s.1, e) (w.setCell ⟨g, 1, none⟩ (.int .i64 (e : Int))) := by
  obtain ⟨A, c, hr, hA, hc, hm, hx, hge, hb⟩ := h
  refine ⟨A, c, (hr.set 1 _).congr fun i hi => ?_, hA, hc, hm, hx, hge, hb.setCell (p := ⟨g, 1, none⟩) hge _⟩
  by_cases hi0 : i = 0
  · subst hi0; rfl
  · rw [if_pos (by omega), if_neg hi0]
theorem InAt.cell1 {W : World} {g : Nat} {s : Rd} {w : World} (h : InAt W g s w) : w.cell? ⟨g, 1, none⟩ = some (.int .i64 (s.2 : Int)) ∧ w.frozen? ⟨g, 1, none⟩ = false := by
  obtain ⟨A, c, hr, _⟩ := h
  have := hr.cell (i := 1) (by omega)
  rw [if_neg (by omega)] at this
  exact ⟨this, hr.frozen 1⟩

/-- P4.2: a flag. -/
def rdFlag (s : Rd) : Rd × Bool := if (rdNum s).2 > 1 then (((rdNum s).1.1, 2), false) else ((rdNum s).1, decide ((rdNum s).2 = 1))
/-- P4.2: how many, at most. -/
def rdCount (most : Nat) (s : Rd) : Rd × Nat := if (rdNum s).1.2 = 0 ∧ (rdNum s).2 > most then (((rdNum s).1.1, 3), 0) else rdNum s

set_option maxHeartbeats 1000000 in
set_option maxRecDepth 100000 in
theorem refInFlag_any (W : World) (g : Nat) (s : Rd) (w : World) (h : InAt W g s w) :
    Calls Try.prog 20 #[.pointer (some ⟨g, 0, none⟩)] w fun e w' => e = .returned (.bool (rdFlag s).2) ∧ InAt W g (rdFlag s).1 w' ∧ Only g w w' := by
  have GN := Lib.hid (refInNum_any W g s w h)
  clear h
  have HLE := Lib.hid (rdNum_le s)
  have HE : Hid (rdFlag s = if (rdNum s).2 > 1 then (((rdNum s).1.1, 2), false) else ((rdNum s).1, decide ((rdNum s).2 = 1))) := rfl
  obtain ⟨X, HX⟩ : ∃ X, Hid (rdNum s = X) := ⟨_, rfl⟩
  rw [HX.out] at GN HLE HE
  obtain ⟨s1, n⟩ := X
  simp only at GN HLE HE
  by_cases hn : 1 < n
  · have e : Hid (rdFlag s = ((s1.1, 2), false)) := by show rdFlag s = _; rw [HE.out, if_pos hn]
    rw [e.out]
    go_enter Try.func20, Try.ntmps20
    go_wp2_with fail
    refine GN.out.mono ?_
    rintro e w1 ⟨rfl, hin, hon⟩
    have HIN := Lib.hid hin; clear hin
    have HON := Lib.hid hon; clear hon
    obtain ⟨c1, f1⟩ := HIN.out.cell1
    go_wp2
    go_ret
    exact ⟨rfl, HIN.out.err 2, HON.out.set 1 _⟩
  · have e : Hid (rdFlag s = (s1, decide (n = 1))) := by show rdFlag s = _; rw [HE.out, if_neg hn]
    rw [e.out]
    have h1 : ((n : Int) == 1) = decide (n = 1) := by
      by_cases hh : n = 1
      · subst hh; rfl
      · rw [decide_eq_false hh]; exact beq_eq_false_iff_ne.2 (by omega)
    go_enter Try.func20, Try.ntmps20
    go_wp2_with fail
    refine GN.out.mono ?_
    rintro e w1 ⟨rfl, hin, hon⟩
    have HIN := Lib.hid hin; clear hin
    have HON := Lib.hid hon; clear hon
    go_wp2
    go_ret
    exact ⟨rfl, HIN.out, HON.out⟩

set_option maxHeartbeats 1000000 in
set_option maxRecDepth 100000 in
theorem refInCount_any (W : World) (g : Nat) (s : Rd) (most : Nat) (w : World) (h : InAt W g s w) :
    Calls Try.prog 61 #[.pointer (some ⟨g, 0, none⟩), .int .i64 (most : Int)] w fun e w' => e = .returned (.int .i64 ((rdCount most s).2 : Nat)) ∧ InAt W g (rdCount most s).1 w' ∧ Only g w w' := by
  have GN := Lib.hid (refInNum_any W g s w h)
  clear h
  have HLE := Lib.hid (rdNum_le s)
  have HE : Hid (rdCount most s = if (rdNum s).1.2 = 0 ∧ (rdNum s).2 > most then (((rdNum s).1.1, 3), 0) else rdNum s) := rfl
  obtain ⟨X, HX⟩ : ∃ X, Hid (rdNum s = X) := ⟨_, rfl⟩
  rw [HX.out] at GN HLE HE
  obtain ⟨⟨L, E⟩, n⟩ := X
  simp only at GN HLE HE
  by_cases h0 : E = 0
  · subst h0
    by_cases hn : most < n
    · have e : Hid (rdCount most s = ((L, 3), 0)) := by show rdCount most s = _; rw [HE.out, if_pos ⟨rfl, hn⟩]
      rw [e.out]
      go_enter Try.func61, Try.ntmps61
      go_wp2_with fail
      refine GN.out.mono ?_
      rintro e w1 ⟨rfl, hin, hon⟩
      have HIN := Lib.hid hin; clear hin
      have HON := Lib.hid hon; clear hon
      obtain ⟨c1, f1⟩ := HIN.out.cell1
      simp only at c1
      go_wp2
      go_ret
      exact ⟨rfl, HIN.out.err 3, HON.out.set 1 _⟩
    · have e : Hid (rdCount most s = ((L, 0), n)) := by show rdCount most s = _; rw [HE.out, if_neg (by omega)]
      rw [e.out]
      go_enter Try.func61, Try.ntmps61
      go_wp2_with fail
      refine GN.out.mono ?_
      rintro e w1 ⟨rfl, hin, hon⟩
      have HIN := Lib.hid hin; clear hin
      have HON := Lib.hid hon; clear hon
      obtain ⟨c1, f1⟩ := HIN.out.cell1
      simp only at c1
      go_wp2
      go_ret
      exact ⟨rfl, HIN.out, HON.out⟩
  · have e : Hid (rdCount most s = ((L, E), n)) := by show rdCount most s = _; rw [HE.out, if_neg (by omega)]
    rw [e.out]
    have h0' : ((E : Int) == 0) = false := beq_eq_false_iff_ne.2 (by omega)
    go_enter Try.func61, Try.ntmps61
    go_wp2_with fail
    refine GN.out.mono ?_
    rintro e w1 ⟨rfl, hin, hon⟩
    have HIN := Lib.hid hin; clear hin
    have HON := Lib.hid hon; clear hon
    obtain ⟨c1, f1⟩ := HIN.out.cell1
    simp only at c1
    go_wp2
    go_ret
    exact ⟨rfl, HIN.out, HON.out⟩
end Go.Proofs.Ytkapfijokmajlaa

/- The document's own reader: Text. Condition: no more than 2^40 bytes. -/
namespace Go.Proofs.Ytkapfijokmajlaa
open Go.RowKit Go.Deep

def inText0 : Sched Nat := (.quiet 22 (.quiet 23 (.quiet 24 .done)))
def inText1 : Sched Nat := (.quiet 19 (.quiet 20 (.one 21 inText0)))
def inText : Sched Nat := (.quiet 0 (.quiet 1 (.one 2 (.quiet 3 (.quiet 4 (.quiet 5 (.quiet 6 (.quiet 7 (.quiet 8 (.quiet 12 (.quiet 13 (.two 9 (.quiet 10 (.quiet 11 (.one 14 (.quiet 15 (.quiet 16 (.quiet 17 (.one 18 inText1))))))) 14 (.quiet 15 (.quiet 16 (.quiet 17 (.two 9 (.quiet 10 (.quiet 11 (.one 18 inText1))) 18 (.one 9 (.quiet 10 (.quiet 11 (.quiet 19 (.quiet 20 (.one 21 inText0))))))))))))))))))))))
theorem InAt.below {W : World} {g : Nat} {s : Rd} {w w' : World} (h : InAt W g s w) (hb : Below w.heap.size w w') : InAt W g s w' := by
  have hge : W.heap.size ≤ g := by obtain ⟨_, _, _, _, _, _, _, hge, _⟩ := h; exact hge
  exact h.kept (Only.of_below (g := g + 1) hb) (by omega) (by omega)

/-- P4.2: a text. -/
noncomputable def rdText (most : Nat) (s : Rd) : Rd × List Nat :=
  if (rdNum s).1.2 = 0 then
    (if (rdNum s).2 > (rdNum s).1.1.length ∨ validB ((rdNum s).1.1.take (rdNum s).2) = false then (((rdNum s).1.1, 2), [])
     else if (rdNum s).2 > most then (((rdNum s).1.1, 3), [])
     else (((rdNum s).1.1.drop (rdNum s).2, 0), (rdNum s).1.1.take (rdNum s).2))
  else ((rdNum s).1, [])
theorem rdNum_length (s : Rd) : (rdNum s).1.1.length ≤ s.1.length := by
  unfold rdNum
  repeat' split
  all_goals simp

set_option maxHeartbeats 2000000 in
set_option maxRecDepth 100000 in
theorem refInText_any (W : World) (g : Nat) (s : Rd) (most : Nat) (hl : s.1.length ≤ 1099511627776) (w : World) (h : InAt W g s w) :
    Calls Try.prog 18 #[.pointer (some ⟨g, 0, none⟩), .int .i64 (most : Int)] w fun e w' => e = .returned (.string (bstr (rdText most s).2)) ∧ InAt W g (rdText most s).1 w' ∧ Only g w w' := by
  have GN := Lib.hid (refInNum_any W g s w h)
  clear h
  have HLEN := Lib.hid (rdNum_length s)
  have HSL := Lib.hid hl; clear hl
  have HE : Hid (rdText most s = if (rdNum s).1.2 = 0 then
    (if (rdNum s).2 > (rdNum s).1.1.length ∨ validB ((rdNum s).1.1.take (rdNum s).2) = false then (((rdNum s).1.1, 2), [])
     else if (rdNum s).2 > most then (((rdNum s).1.1, 3), [])
     else (((rdNum s).1.1.drop (rdNum s).2, 0), (rdNum s).1.1.take (rdNum s).2))
  else ((rdNum s).1, [])) := rfl
  obtain ⟨X, HX⟩ : ∃ X, Hid (rdNum s = X) := ⟨_, rfl⟩
  rw [HX.out] at GN HE HLEN
  obtain ⟨⟨L, E⟩, n⟩ := X
  simp only at GN HE HLEN
  by_cases h0 : E = 0
  · subst h0
    by_cases hn : L.length < n
    · have e : Hid (rdText most s = ((L, 2), [])) := by show rdText most s = _; rw [HE.out, if_pos rfl, if_pos (.inl hn)]
      rw [e.out]
      go_enter Try.func18, Try.ntmps18
      go_wp2_with fail
      refine GN.out.mono ?_
      rintro e w1 ⟨rfl, hin, hon⟩
      have HIN := Lib.hid hin; clear hin
      have HON := Lib.hid hon; clear hon
      obtain ⟨A, c, hr, -⟩ := HIN.out
      have c0 := hr.cell (i := 0) (by omega)
      have c1 := hr.cell (i := 1) (by omega)
      have f0 := hr.frozen 0
      have f1 := hr.frozen 1
      rw [if_pos rfl] at c0
      rw [if_neg (by omega)] at c1
      simp only at c0 c1
      have HLT : Hid (g < w1.heap.size) := hr.lt
      clear hr
      go_wp2
      refine Sched.wp_region_tree none inText (by kernel_rfl) (by kernel_rfl) (fun _ _ d _ _ h => by cases d <;> exact h) ?_
      have HIN2 := Lib.hid HIN.out.drew
      have HON2 := Lib.hid HON.out.drew
      have c0d : w1.drew.cell? ⟨g, 0, none⟩ = _ := c0
      clear c0 c1 f0 f1
      have c0e := fun e : ExtB none w1.drew => (e.property.cell (p := ⟨g, 0, none⟩) HLT.out).trans c0d
      clear c0d
      generalize w1.drew = wd at HIN2 HON2 c0e ⊢
      simp only [inText, inText0, inText1, Sched.picked, List.getElem?_cons_succ, List.getElem?_cons_zero, Option.getD_some]
      have hn' : (L.length : Int) < (n : Int) := by omega
      repeat' (first | (refine Sched.walk_two ?_ ?_) | (refine Sched.walk_skip_quiet (by rfl) ?_; simp only [Act.put, List.setIfInBounds_toArray, List.set_cons_zero, List.set_cons_succ]) | (refine Sched.walk_skip_one (by rfl) ?_; simp only [Act.put, List.setIfInBounds_toArray, List.set_cons_zero, List.set_cons_succ]) | (refine Sched.walk_quiet (by rfl) (fun K hK => ?_); go_big_quiet_op; refine hK _ ?_; clear hK K) | (refine Sched.walk_one (by rfl) (fun K hK => ?_); go_simp; refine hK _ _ (Below.refl _ _) ?_; clear hK K))
      all_goals
        refine Sched.walk_done ?_
        obtain ⟨c1, f1⟩ := HIN2.out.cell1
        simp only at c1
        go_wp2
        go_ret
        exact ⟨rfl, HIN2.out.err 2, HON2.out.set 1 _⟩
    · have hle : n ≤ L.length := by omega
      obtain ⟨T, HT⟩ : ∃ T, Hid (L.take n = T) := ⟨_, rfl⟩
      have HTL : Hid (n = T.length) := by show n = T.length; rw [← HT.out, List.length_take]; omega
      obtain ⟨F, HF⟩ : ∃ F, Hid (validB T = F) := ⟨_, rfl⟩
      rw [HT.out, HF.out] at HE
      have hmin : min (n : Int) (L.length : Int) = (n : Int) := by omega
      have hn' : ¬ (L.length : Int) < (n : Int) := by omega
      cases F
      · have e : Hid (rdText most s = ((L, 2), [])) := by show rdText most s = ((L, 2), []); rw [HE.out, if_pos rfl, if_pos (.inr rfl)]
        rw [e.out]
        go_enter Try.func18, Try.ntmps18
        go_wp2_with fail
        refine GN.out.mono ?_
        rintro e w1 ⟨rfl, hin, hon⟩
        have HIN := Lib.hid hin; clear hin
        have HON := Lib.hid hon; clear hon
        obtain ⟨A, c, hr, hA, hc, hm, hx, hge, hb⟩ := HIN.out
        simp only at hA hc hx
        have c0 := hr.cell (i := 0) (by omega)
        have c1 := hr.cell (i := 1) (by omega)
        have f0 := hr.frozen 0
        have f1 := hr.frozen 1
        rw [if_pos rfl] at c0
        rw [if_neg (by omega)] at c1
        simp only at c0 c1
        have HLT : Hid (g < w1.heap.size) := hr.lt
        have HR := Lib.hid hr; clear hr
        have SH := fun w => slice_high A L.length c n (by omega) w
        have hat := (hA.below hb).high c n
        rw [HT.out] at hat
        have CV := fun e : ExtB none w1.drew => (hat.drew.below e.property).conv c 9 Try.underlying9
        rw [← HTL.out] at CV
        have GV := Lib.hid (refValid_any T (fun x hx' => hx x (List.mem_of_mem_take (HT.out ▸ hx'))) (by have := HLEN.out; have := HSL.out; have := HTL.out; omega) w1.drew)
        rw [HF.out] at GV
        have HAT := Lib.hid hat.drew
        clear hat
        have HPK : Hid (BytesAt W A L ∧ L.length ≤ c ∧ c ≤ maxLen ∧ (∀ x ∈ L, x < 256) ∧ W.heap.size ≤ g) := ⟨hA, hc, hm, hx, hge⟩
        clear hA hx hb hc hm hge
        go_wp2
        refine Sched.wp_region_tree none inText (by kernel_rfl) (by kernel_rfl) (fun _ _ d _ _ h => by cases d <;> exact h) ?_
        have HIN2 := Lib.hid HIN.out.drew
        have HON2 := Lib.hid HON.out.drew
        have c0d : w1.drew.cell? ⟨g, 0, none⟩ = _ := c0
        clear c0 c1 f0 f1
        have c0e := fun e : ExtB none w1.drew => (e.property.cell (p := ⟨g, 0, none⟩) HLT.out).trans c0d
        clear c0d
        have HR2 := Lib.hid HR.out.drew
        generalize w1.drew = wd at HIN2 HON2 HR2 c0e CV GV HAT ⊢
        simp only [inText, inText0, inText1, Sched.picked, List.getElem?_cons_succ, List.getElem?_cons_zero, Option.getD_some]
        repeat' (first | (refine Sched.walk_two ?_ ?_) | (refine Sched.walk_skip_quiet (by rfl) ?_; simp only [Act.put, List.setIfInBounds_toArray, List.set_cons_zero, List.set_cons_succ]) | (refine Sched.walk_skip_one (by rfl) ?_; simp only [Act.put, List.setIfInBounds_toArray, List.set_cons_zero, List.set_cons_succ]) | (refine Sched.walk_quiet (by rfl) (fun K hK => ?_); go_big_quiet_op; refine hK _ ?_; clear hK K) | (refine Sched.walk_one (by rfl) (fun K hK => ?_); go_simp; refine hK _ _ (Below.refl _ _) ?_; clear hK K))
        all_goals
          refine Sched.walk_one (by rfl) (fun K hK => ?_)
          go_simp
          refine GV.out.mono ?_
          rintro e w2 ⟨rfl, hbv⟩
          have HBV := Lib.hid hbv; clear hbv
          refine hK _ _ HBV.out ?_
          clear hK K c0e CV
          have HIN3 := Lib.hid (HIN2.out.below HBV.out)
          have HON3 := Lib.hid (HON2.out.trans (Only.of_below HBV.out))
          have HR3 := Lib.hid (HR2.out.of_block (HBV.out.block g HR2.out.lt))
          repeat' (first | (refine Sched.walk_two ?_ ?_) | (refine Sched.walk_skip_quiet (by rfl) ?_; simp only [Act.put, List.setIfInBounds_toArray, List.set_cons_zero, List.set_cons_succ]) | (refine Sched.walk_skip_one (by rfl) ?_; simp only [Act.put, List.setIfInBounds_toArray, List.set_cons_zero, List.set_cons_succ]) | (refine Sched.walk_quiet (by rfl) (fun K hK => ?_); go_big_quiet_op; refine hK _ ?_; clear hK K) | (refine Sched.walk_one (by rfl) (fun K hK => ?_); go_simp; refine hK _ _ (Below.refl _ _) ?_; clear hK K))
          refine Sched.walk_done ?_
          obtain ⟨c1, f1⟩ := HIN3.out.cell1
          simp only at c1
          go_wp2
          go_ret
          exact ⟨rfl, HIN3.out.err 2, HON3.out.set 1 _⟩
      · by_cases hbig : most < n
        · have e : Hid (rdText most s = ((L, 3), [])) := by show rdText most s = ((L, 3), []); rw [HE.out, if_pos rfl, if_neg (by simp; omega), if_pos hbig]
          rw [e.out]
          go_enter Try.func18, Try.ntmps18
          go_wp2_with fail
          refine GN.out.mono ?_
          rintro e w1 ⟨rfl, hin, hon⟩
          have HIN := Lib.hid hin; clear hin
          have HON := Lib.hid hon; clear hon
          obtain ⟨A, c, hr, hA, hc, hm, hx, hge, hb⟩ := HIN.out
          simp only at hA hc hx
          have c0 := hr.cell (i := 0) (by omega)
          have c1 := hr.cell (i := 1) (by omega)
          have f0 := hr.frozen 0
          have f1 := hr.frozen 1
          rw [if_pos rfl] at c0
          rw [if_neg (by omega)] at c1
          simp only at c0 c1
          have HLT : Hid (g < w1.heap.size) := hr.lt
          have HR := Lib.hid hr; clear hr
          have SH := fun w => slice_high A L.length c n (by omega) w
          have hat := (hA.below hb).high c n
          rw [HT.out] at hat
          have CV := fun e : ExtB none w1.drew => (hat.drew.below e.property).conv c 9 Try.underlying9
          rw [← HTL.out] at CV
          have GV := Lib.hid (refValid_any T (fun x hx' => hx x (List.mem_of_mem_take (HT.out ▸ hx'))) (by have := HLEN.out; have := HSL.out; have := HTL.out; omega) w1.drew)
          rw [HF.out] at GV
          have HAT := Lib.hid hat.drew
          clear hat
          have HPK : Hid (BytesAt W A L ∧ L.length ≤ c ∧ c ≤ maxLen ∧ (∀ x ∈ L, x < 256) ∧ W.heap.size ≤ g) := ⟨hA, hc, hm, hx, hge⟩
          clear hA hx hb hc hm hge
          go_wp2
          refine Sched.wp_region_tree none inText (by kernel_rfl) (by kernel_rfl) (fun _ _ d _ _ h => by cases d <;> exact h) ?_
          have HIN2 := Lib.hid HIN.out.drew
          have HON2 := Lib.hid HON.out.drew
          have c0d : w1.drew.cell? ⟨g, 0, none⟩ = _ := c0
          clear c0 c1 f0 f1
          have c0e := fun e : ExtB none w1.drew => (e.property.cell (p := ⟨g, 0, none⟩) HLT.out).trans c0d
          clear c0d
          have HR2 := Lib.hid HR.out.drew
          generalize w1.drew = wd at HIN2 HON2 HR2 c0e CV GV HAT ⊢
          simp only [inText, inText0, inText1, Sched.picked, List.getElem?_cons_succ, List.getElem?_cons_zero, Option.getD_some]
          repeat' (first | (refine Sched.walk_two ?_ ?_) | (refine Sched.walk_skip_quiet (by rfl) ?_; simp only [Act.put, List.setIfInBounds_toArray, List.set_cons_zero, List.set_cons_succ]) | (refine Sched.walk_skip_one (by rfl) ?_; simp only [Act.put, List.setIfInBounds_toArray, List.set_cons_zero, List.set_cons_succ]) | (refine Sched.walk_quiet (by rfl) (fun K hK => ?_); go_big_quiet_op; refine hK _ ?_; clear hK K) | (refine Sched.walk_one (by rfl) (fun K hK => ?_); go_simp; refine hK _ _ (Below.refl _ _) ?_; clear hK K))
          all_goals
            refine Sched.walk_one (by rfl) (fun K hK => ?_)
            go_simp
            refine GV.out.mono ?_
            rintro e w2 ⟨rfl, hbv⟩
            have HBV := Lib.hid hbv; clear hbv
            refine hK _ _ HBV.out ?_
            clear hK K c0e CV
            have HIN3 := Lib.hid (HIN2.out.below HBV.out)
            have HON3 := Lib.hid (HON2.out.trans (Only.of_below HBV.out))
            have HR3 := Lib.hid (HR2.out.of_block (HBV.out.block g HR2.out.lt))
            repeat' (first | (refine Sched.walk_two ?_ ?_) | (refine Sched.walk_skip_quiet (by rfl) ?_; simp only [Act.put, List.setIfInBounds_toArray, List.set_cons_zero, List.set_cons_succ]) | (refine Sched.walk_skip_one (by rfl) ?_; simp only [Act.put, List.setIfInBounds_toArray, List.set_cons_zero, List.set_cons_succ]) | (refine Sched.walk_quiet (by rfl) (fun K hK => ?_); go_big_quiet_op; refine hK _ ?_; clear hK K) | (refine Sched.walk_one (by rfl) (fun K hK => ?_); go_simp; refine hK _ _ (Below.refl _ _) ?_; clear hK K))
            refine Sched.walk_done ?_
            obtain ⟨c1, f1⟩ := HIN3.out.cell1
            simp only at c1
            go_wp2
            go_ret
            exact ⟨rfl, HIN3.out.err 3, HON3.out.set 1 _⟩
        · have e : Hid (rdText most s = ((L.drop n, 0), T)) := by show rdText most s = ((L.drop n, 0), T); rw [HE.out, if_pos rfl, if_neg (by simp; omega), if_neg hbig]
          rw [e.out]
          go_enter Try.func18, Try.ntmps18
          go_wp2_with fail
          refine GN.out.mono ?_
          rintro e w1 ⟨rfl, hin, hon⟩
          have HIN := Lib.hid hin; clear hin
          have HON := Lib.hid hon; clear hon
          obtain ⟨A, c, hr, hA, hc, hm, hx, hge, hb⟩ := HIN.out
          simp only at hA hc hx
          have c0 := hr.cell (i := 0) (by omega)
          have c1 := hr.cell (i := 1) (by omega)
          have f0 := hr.frozen 0
          have f1 := hr.frozen 1
          rw [if_pos rfl] at c0
          rw [if_neg (by omega)] at c1
          simp only at c0 c1
          have HLT : Hid (g < w1.heap.size) := hr.lt
          have HR := Lib.hid hr; clear hr
          have SH := fun w => slice_high A L.length c n (by omega) w
          have hat := (hA.below hb).high c n
          rw [HT.out] at hat
          have CV := fun e : ExtB none w1.drew => (hat.drew.below e.property).conv c 9 Try.underlying9
          rw [← HTL.out] at CV
          have GV := Lib.hid (refValid_any T (fun x hx' => hx x (List.mem_of_mem_take (HT.out ▸ hx'))) (by have := HLEN.out; have := HSL.out; have := HTL.out; omega) w1.drew)
          rw [HF.out] at GV
          have HAT := Lib.hid hat.drew
          clear hat
          have HPK : Hid (BytesAt W A L ∧ L.length ≤ c ∧ c ≤ maxLen ∧ (∀ x ∈ L, x < 256) ∧ W.heap.size ≤ g) := ⟨hA, hc, hm, hx, hge⟩
          clear hA hx hb hc hm hge
          go_wp2
          refine Sched.wp_region_tree none inText (by kernel_rfl) (by kernel_rfl) (fun _ _ d _ _ h => by cases d <;> exact h) ?_
          have HIN2 := Lib.hid HIN.out.drew
          have HON2 := Lib.hid HON.out.drew
          have c0d : w1.drew.cell? ⟨g, 0, none⟩ = _ := c0
          clear c0 c1 f0 f1
          have c0e := fun e : ExtB none w1.drew => (e.property.cell (p := ⟨g, 0, none⟩) HLT.out).trans c0d
          clear c0d
          have HR2 := Lib.hid HR.out.drew
          generalize w1.drew = wd at HIN2 HON2 HR2 c0e CV GV HAT ⊢
          simp only [inText, inText0, inText1, Sched.picked, List.getElem?_cons_succ, List.getElem?_cons_zero, Option.getD_some]
          repeat' (first | (refine Sched.walk_two ?_ ?_) | (refine Sched.walk_skip_quiet (by rfl) ?_; simp only [Act.put, List.setIfInBounds_toArray, List.set_cons_zero, List.set_cons_succ]) | (refine Sched.walk_skip_one (by rfl) ?_; simp only [Act.put, List.setIfInBounds_toArray, List.set_cons_zero, List.set_cons_succ]) | (refine Sched.walk_quiet (by rfl) (fun K hK => ?_); go_big_quiet_op; refine hK _ ?_; clear hK K) | (refine Sched.walk_one (by rfl) (fun K hK => ?_); go_simp; refine hK _ _ (Below.refl _ _) ?_; clear hK K))
          all_goals
            refine Sched.walk_one (by rfl) (fun K hK => ?_)
            go_simp
            refine GV.out.mono ?_
            rintro e w2 ⟨rfl, hbv⟩
            have HBV := Lib.hid hbv; clear hbv
            refine hK _ _ HBV.out ?_
            clear hK K c0e CV
            have HIN3 := Lib.hid (HIN2.out.below HBV.out)
            have HON3 := Lib.hid (HON2.out.trans (Only.of_below HBV.out))
            have HR3 := Lib.hid (HR2.out.of_block (HBV.out.block g HR2.out.lt))
            repeat' (first | (refine Sched.walk_two ?_ ?_) | (refine Sched.walk_skip_quiet (by rfl) ?_; simp only [Act.put, List.setIfInBounds_toArray, List.set_cons_zero, List.set_cons_succ]) | (refine Sched.walk_skip_one (by rfl) ?_; simp only [Act.put, List.setIfInBounds_toArray, List.set_cons_zero, List.set_cons_succ]) | (refine Sched.walk_quiet (by rfl) (fun K hK => ?_); go_big_quiet_op; refine hK _ ?_; clear hK K) | (refine Sched.walk_one (by rfl) (fun K hK => ?_); go_simp; refine hK _ _ (Below.refl _ _) ?_; clear hK K))
            refine Sched.walk_done ?_
            obtain ⟨c1, f1⟩ := HIN3.out.cell1
            simp only at c1
            have c0 := HR3.out.cell (i := 0) (by omega)
            have f0 := HR3.out.frozen 0
            rw [if_pos rfl] at c0
            have SLO := fun w => slice_low A L.length c n hle w
            have CV3 := (HAT.out.below HBV.out).conv c 9 Try.underlying9
            rw [← HTL.out] at CV3
            go_wp2
            go_ret
            obtain ⟨hA, hc, hm, hx, hge⟩ := HPK.out
            refine ⟨rfl, ⟨addrLow A n c, c - n, (HR3.out.set 0 _).congr fun i hi => ?_, hA.low c n hc, by simp; omega, by omega, fun x hx' => hx x (List.mem_of_mem_drop hx'), hge, ?_⟩, HON3.out.set 0 _⟩
            · by_cases hi0 : i = 0
              · rw [if_pos hi0, if_pos hi0, List.length_drop]
              · rw [if_neg hi0, if_neg hi0, if_neg hi0]
            · obtain ⟨_, _, _, _, _, _, _, _, hb3⟩ := HIN3.out
              exact hb3.setCell (p := ⟨g, 0, none⟩) hge _
  · have e : Hid (rdText most s = ((L, E), [])) := by show rdText most s = _; rw [HE.out, if_neg h0]
    rw [e.out]
    have h0' : ((E : Int) == 0) = false := beq_eq_false_iff_ne.2 (by omega)
    go_enter Try.func18, Try.ntmps18
    go_wp2_with fail
    refine GN.out.mono ?_
    rintro e w1 ⟨rfl, hin, hon⟩
    have HIN := Lib.hid hin; clear hin
    have HON := Lib.hid hon; clear hon
    obtain ⟨c1, f1⟩ := HIN.out.cell1
    simp only at c1
    go_wp2
    go_ret
    exact ⟨rfl, HIN.out, HON.out⟩
end Go.Proofs.Ytkapfijokmajlaa

/- The document's own reader: Comps. Condition: no more than 2^40 bytes. -/
namespace Go.Proofs.Ytkapfijokmajlaa
open Go.RowKit Go.Deep

theorem comp_info : (Try.prog.info? 94).map (fun i => (i.zero, i.size, i.bytes)) = some (some (.agg #[.int .i64 0, .int .i64 0, .string { data := #[] }]), 3, 32) := by kernel_rfl

theorem Only.grown {g : Nat} {a w w' : World} {row : Option Nat} (h : Only g a w) (hg : w.grownBy w' row) (hr : ∀ k, row = some k → a.heap.size ≤ k) : Only g a w' :=
  ⟨hg.os.trans h.os, hg.tape.trans h.tape, hg.output.trans h.output, Nat.le_trans h.size hg.size, fun k hk hkg => (hg.block k (Nat.lt_of_lt_of_le hk h.size) (fun e => by have := hr k e.symm; omega)).trans (h.block k hk hkg)⟩
theorem InAt.grown {W : World} {g : Nat} {s : Rd} {w w' : World} {row : Option Nat} (h : InAt W g s w) (hg : w.grownBy w' row) (hr : ∀ k, row = some k → g < k) : InAt W g s w' := by
  obtain ⟨A, c, hrow, hA, hc, hm, hx, hge, hb⟩ := h
  exact ⟨A, c, hrow.of_block (hg.block g hrow.lt (fun e => by have := hr g e.symm; omega)), hA, hc, hm, hx, hge, hb.grown hg hb.size (fun k hk => by have := hr k hk; omega)⟩
theorem own_only {w w' : World} {base g : Nat} {e : TypeId} {size : Nat} {v : Value} {n : Nat} {xs : List Value} (h : w.ownsRow base e size v n xs) (ho : Only g w w') (hg : g < base) : w'.ownsRow base e size v n xs := by
  refine ⟨h.1, ?_⟩
  rcases h.2 with h2 | ⟨g', cap, cur, hv, hgb, hh, h3, h4, h5⟩
  · exact .inl h2
  · have hlt : g' < w.heap.size := by
      rcases Nat.lt_or_ge g' w.heap.size with hlt | hge
      · exact hlt
      · rw [Array.getElem?_eq_none hge] at hh; cases hh
    exact .inr ⟨g', cap, cur, hv, hgb, by rw [ho.block g' hlt (by omega)]; exact hh, h3, h4, h5⟩

/-- Cells that lie in a row of the call's own. -/
theorem CellsAt.of_own {w : World} {base : Nat} {e : TypeId} {size : Nat} {A : Option Addr} {n c : Nat} {xs : List Value} (h : w.ownsRow base e size (.slice A n c) n xs) : CellsAt w A xs := by
  by_cases h0 : n = 0
  · subst h0
    exact .inl (List.eq_nil_of_length_eq_zero (by rw [h.1, Nat.zero_mul]))
  · obtain ⟨g, cap, hv, _, hlt⟩ := h.form (by omega)
    injection hv with h1 h2 h3
    subst h1
    subst h3
    refine .inr ⟨g, 0, rfl, hlt, fun j x hx => ?_⟩
    have := h.cells (g := g) rfl j x hx
    rw [Nat.zero_add]
    rw [Go.WideShapes.add_plain, Nat.zero_add] at this
    exact this

/-- P4.2: some things, one after another, till one is not well. -/
noncomputable def rdMany {α : Type} (f : Rd → Rd × α) : Nat → Rd → Rd × List α
  | 0, s => (s, [])
  | n + 1, s => if s.2 = 0 then ((rdMany f n (f s).1).1, (f s).2 :: (rdMany f n (f s).1).2) else (s, [])
noncomputable def rdComp (s : Rd) : Rd × CompV := ((rdText 8000 (rdNum (rdNum s).1).1).1, ⟨((rdNum s).2 : Int), ((rdNum (rdNum s).1).2 : Int), (rdText 8000 (rdNum (rdNum s).1).1).2⟩)
noncomputable def rdComps (s : Rd) : Rd × List CompV :=
  ((rdMany rdComp (rdCount 100 s).2 (rdCount 100 s).1).1, if (rdMany rdComp (rdCount 100 s).2 (rdCount 100 s).1).1.2 = 0 then (rdMany rdComp (rdCount 100 s).2 (rdCount 100 s).1).2 else [])
theorem rdCount_le (most : Nat) (s : Rd) : (rdCount most s).2 ≤ most := by
  unfold rdCount rdNum
  repeat' split
  all_goals simp_all
  all_goals omega
theorem rdCount_length (most : Nat) (s : Rd) : (rdCount most s).1.1.length ≤ s.1.length := by
  unfold rdCount
  have := rdNum_length s
  split <;> simp <;> omega
theorem rdText_length (most : Nat) (s : Rd) : (rdText most s).1.1.length ≤ s.1.length := by
  unfold rdText
  have := rdNum_length s
  repeat' split
  all_goals simp
  all_goals omega

/-- What the loop holds behind k rounds. -/
def ManyRel {α : Type} (f : Rd → Rd × α) (cells : α → List Value) (t : TypeId) (sz : Nat) (W w : World) (g n : Nat) (s0 : Rd) (k : Nat) (v : Value) (wr : World) : Prop :=
  ∃ s l, InAt W g s wr ∧ Only g w wr ∧ wr.ownsRow w.heap.size t sz v l.length (l.flatMap cells) ∧ l.length = k ∧ s.1.length ≤ 1099511627776 ∧ rdMany f n s0 = ((rdMany f (n - k) s).1, l ++ (rdMany f (n - k) s).2)

set_option maxHeartbeats 2000000 in
set_option maxRecDepth 100000 in
theorem refInComps_any (W : World) (g : Nat) (s : Rd) (hl : s.1.length ≤ 1099511627776) (w : World) (h : InAt W g s w) :
    Calls Try.prog 23 #[.pointer (some ⟨g, 0, none⟩)] w fun e w' =>
      (∃ A c, e = .returned (.slice A (rdComps s).2.length c) ∧ w'.ownsRow w.heap.size 94 3 (.slice A (rdComps s).2.length c) (rdComps s).2.length ((rdComps s).2.flatMap compCells)) ∧ InAt W g (rdComps s).1 w' ∧ Only g w w' := by
  obtain ⟨i0, hi0, hz0, hz1, hz2⟩ := info_parts comp_info
  have HI := Lib.hid (And.intro hi0 (And.intro hz0 (And.intro hz1 hz2)))
  clear hi0 hz0 hz1 hz2
  have GC := Lib.hid (refInCount_any W g s 100 w h)
  have hgl : g < w.heap.size := by obtain ⟨_, _, hr, _⟩ := h; exact hr.lt
  clear h
  have HSL : Hid ((rdCount 100 s).1.1.length ≤ 1099511627776) := Nat.le_trans (rdCount_length 100 s) hl
  clear hl
  have HCL := Lib.hid (rdCount_le 100 s)
  have HE : Hid (rdComps s = ((rdMany rdComp (rdCount 100 s).2 (rdCount 100 s).1).1, if (rdMany rdComp (rdCount 100 s).2 (rdCount 100 s).1).1.2 = 0 then (rdMany rdComp (rdCount 100 s).2 (rdCount 100 s).1).2 else [])) := rfl
  obtain ⟨X, HX⟩ : ∃ X, Hid (rdCount 100 s = X) := ⟨_, rfl⟩
  rw [HX.out] at GC HCL HSL HE
  obtain ⟨s0, n⟩ := X
  simp only at GC HCL HSL HE
  have HGL := Lib.hid hgl; clear hgl
  have HEND : Hid (∀ (s1 : Rd) (l : List CompV) (k : Nat), (k = n ∨ s1.2 ≠ 0) → k ≤ n → rdMany rdComp n s0 = ((rdMany rdComp (n - k) s1).1, l ++ (rdMany rdComp (n - k) s1).2) → rdComps s = (s1, if s1.2 = 0 then l else [])) := by
    intro s1 l k hk hkn hm
    have h1 : rdMany rdComp (n - k) s1 = (s1, []) := by
      rcases hk with rfl | hk
      · rw [Nat.sub_self]; rfl
      · cases hnk : n - k with
        | zero => rfl
        | succ m => rw [rdMany, if_neg hk]
    rw [h1, List.append_nil] at hm
    rw [HE.out, hm]
  have HSTEP : Hid (∀ (s1 : Rd) (l : List CompV) (k : Nat), s1.2 = 0 → k < n → rdMany rdComp n s0 = ((rdMany rdComp (n - k) s1).1, l ++ (rdMany rdComp (n - k) s1).2) →
      rdMany rdComp n s0 = ((rdMany rdComp (n - (k + 1)) (rdComp s1).1).1, (l ++ [(rdComp s1).2]) ++ (rdMany rdComp (n - (k + 1)) (rdComp s1).1).2)) := by
    intro s1 l k h0 hk hm
    rw [hm, show n - k = (n - (k + 1)) + 1 by omega, rdMany, if_pos h0]
    simp
  go_enter Try.func23, Try.ntmps23
  go_wp2_with fail
  refine GC.out.mono ?_
  rintro e w1 ⟨rfl, hin, hon⟩
  have HIN := Lib.hid hin; clear hin
  have HON := Lib.hid hon; clear hon
  have hn100 := HCL.out
  go_wp2
  go_loopw [4, 5] (fun v i wr => ∃ k : Nat, k ≤ n ∧ i = .int .i64 k ∧ ManyRel rdComp compCells 94 3 W w g n s0 k v wr) (fun _ i _ => n - (intOf i).toNat)
  case atStart => exact ⟨0, Nat.zero_le _, rfl, s0, [], HIN.out, HON.out, World.ownsRow_nil _ _ _ _, rfl, HSL.out, by simp⟩
  case round =>
    obtain ⟨k, hk, rfl, s1, l, hin, hon, hown, hlk, hsl, hm⟩ := hrel
    have HIN1 := Lib.hid hin; clear hin
    have HON1 := Lib.hid hon; clear hon
    have HOWN := Lib.hid hown; clear hown
    have HM := Lib.hid hm; clear hm
    have HSL1 := Lib.hid hsl; clear hsl
    have HLK := Lib.hid hlk; clear hlk
    obtain ⟨A4, c4, rfl⟩ := own_slice HOWN.out
    obtain ⟨c1, f1⟩ := HIN1.out.cell1
    obtain ⟨L1, E1⟩ := s1
    simp only at c1
    by_cases hE : E1 = 0
    · subst hE
      by_cases hlt : k < n
      · have hst := HSTEP.out (L1, 0) l k rfl hlt HM.out
        have HST := Lib.hid hst; clear hst
        have G1 := Lib.hid (fun w h => refInNum_any W g (L1, 0) w h)
        have HL1 := Lib.hid (rdNum_length (L1, 0))
        have HRC : Hid (rdComp (L1, 0) = ((rdText 8000 (rdNum (rdNum (L1, 0)).1).1).1, ⟨((rdNum (L1, 0)).2 : Int), ((rdNum (rdNum (L1, 0)).1).2 : Int), (rdText 8000 (rdNum (rdNum (L1, 0)).1).1).2⟩)) := rfl
        obtain ⟨X1, HX1⟩ : ∃ X, Hid (rdNum (L1, 0) = X) := ⟨_, rfl⟩
        rw [HX1.out] at G1 HL1 HRC
        obtain ⟨s2, a⟩ := X1
        simp only at G1 HL1 HRC
        have G2 := Lib.hid (fun w h => refInNum_any W g s2 w h)
        have HL2 := Lib.hid (rdNum_length s2)
        obtain ⟨X2, HX2⟩ : ∃ X, Hid (rdNum s2 = X) := ⟨_, rfl⟩
        rw [HX2.out] at G2 HL2 HRC
        obtain ⟨s3, b⟩ := X2
        simp only at G2 HL2 HRC
        have hs3 : s3.1.length ≤ 1099511627776 := Nat.le_trans HL2.out (Nat.le_trans HL1.out HSL1.out)
        have G3 := Lib.hid (fun w h => refInText_any W g s3 8000 hs3 w h)
        have HL3 := Lib.hid (rdText_length 8000 s3)
        have HS3 := Lib.hid hs3; clear hs3
        obtain ⟨X3, HX3⟩ : ∃ X, Hid (rdText 8000 s3 = X) := ⟨_, rfl⟩
        rw [HX3.out] at G3 HL3 HRC
        obtain ⟨s4, tx⟩ := X3
        simp only at G3 HL3 HRC
        rw [HRC.out] at HST
        simp only at HST
        go_wp2_with fail
        refine (G1.out _ HIN1.out).mono ?_
        rintro e w2 ⟨rfl, hin2, hon2⟩
        have HIN2 := Lib.hid hin2; have HON2 := Lib.hid hon2; clear hin2 hon2
        go_wp2_with fail
        refine (G2.out _ HIN2.out).mono ?_
        rintro e w3 ⟨rfl, hin3, hon3⟩
        have HIN3 := Lib.hid hin3; have HON3 := Lib.hid hon3; clear hin3 hon3
        go_wp2_with fail
        refine (G3.out _ HIN3.out).mono ?_
        rintro e w4 ⟨rfl, hin4, hon4⟩
        have HIN4 := Lib.hid hin4; have HON4 := Lib.hid hon4; clear hin4 hon4
        have HO4 := Lib.hid (own_only (own_only (own_only HOWN.out HON2.out HGL.out) HON3.out HGL.out) HON4.out HGL.out)
        have HU4 := Lib.hid (((HON1.out.trans HON2.out).trans HON3.out).trans HON4.out)
        clear c1 f1
        have HU5 : Hid (Only g w (w4.alloc (.cells #[.int .i64 (a : Int), .int .i64 (b : Int), .string (bstr tx)] 94))) := HU4.out.trans (Only.of_below ((Below.refl _ _).alloc (Nat.le_refl _) _))
        have HIN5 : Hid (InAt W g s4 (w4.alloc (.cells #[.int .i64 (a : Int), .int .i64 (b : Int), .string (bstr tx)] 94))) := HIN4.out.below ((Below.refl _ _).alloc (Nat.le_refl _) _)
        go_wp2_with (at_builtin
                     refine wpList_append_own_wide _ rfl (.tmp 26) (.tmp 32) 41 rfl w.heap.size 94 i0 (.agg #[.int .i64 0, .int .i64 0, .string { data := #[] }]) 3 32 Try.underlying41 HI.out.1 HI.out.2.1 HI.out.2.2.1 HI.out.2.2.2 rfl (by omega) (.slice A4 l.length c4) l.length (l.flatMap compCells) rfl (HO4.out.alloc _) ⟨w4.heap.size, 0, none⟩ 1 1 [.int .i64 (a : Int), .int .i64 (b : Int), .string (bstr tx)] rfl rfl ?_ ?_ (by have := HLK.out; simp only [maxLen]; omega) (by have := HLK.out; omega) (by have := HU4.out.size; simp; omega) ?_
                     · intro j u hj
                       rw [Go.WideShapes.add_plain, Nat.zero_add, cell_of_row _ _ _ _ _ _ (heap_alloc_new w4 _)]
                       simpa using hj
                     · intro u hu; simp at hu; rcases hu with rfl | rfl | rfl <;> rfl
                     intro v6 w6 hown6 hgr6 _
                     have HOWN6 := Lib.hid hown6
                     have HU6 := Lib.hid (HU5.out.grown hgr6 (fun k hk => (HO4.out.lt k hk).1))
                     have HIN6 := Lib.hid (HIN5.out.grown hgr6 (fun k hk => Nat.lt_of_lt_of_le HGL.out (HO4.out.lt k hk).1))
                     clear hown6 hgr6)
        go_roundw
        case rel =>
          refine ⟨k + 1, by omega, by go_num, s4, l ++ [⟨(a : Int), (b : Int), tx⟩], HIN6.out, HU6.out, ?_, by rw [List.length_append, HLK.out]; rfl, Nat.le_trans HL3.out HS3.out, HST.out⟩
          rw [List.length_append, List.flatMap_append]
          simpa [compCells] using HOWN6.out
        case measure => simp [intOf]; omega
      · have e : Hid (rdComps s = ((L1, 0), l)) := HEND.out (L1, 0) l k (.inl (by omega)) hk HM.out
        go_wp2
        go_ret
        rw [e.out]
        exact ⟨⟨A4, c4, rfl, HOWN.out⟩, HIN1.out, HON1.out⟩
    · have e : Hid (rdComps s = ((L1, E1), [])) := by
        have := HEND.out (L1, E1) l k (.inr hE) hk HM.out
        rw [if_neg hE] at this
        exact this
      have hE' : ((E1 : Int) == 0) = false := beq_eq_false_iff_ne.2 (by omega)
      by_cases hlt : k < n
      all_goals
        go_wp2
        go_ret
        rw [e.out]
        exact ⟨⟨none, 0, rfl, World.ownsRow_nil _ _ _ _⟩, HIN1.out, HON1.out⟩
end Go.Proofs.Ytkapfijokmajlaa

/- The document's own reader: Nodes. Condition: no more than 2^40 bytes. -/
namespace Go.Proofs.Ytkapfijokmajlaa
open Go.RowKit Go.Deep

theorem node_info : (Try.prog.info? 57).map (fun i => (i.zero, i.size, i.bytes)) = some (some (.agg #[.int .i64 0, .int .i64 0, .string { data := #[] }, .bool false, .string { data := #[] }]), 5, 56) := by kernel_rfl
theorem rdFlag_length (s : Rd) : (rdFlag s).1.1.length ≤ s.1.length := by
  unfold rdFlag
  have := rdNum_length s
  split <;> simp <;> omega
noncomputable def rdNode (s : Rd) : Rd × NodeV :=
  ((rdText 8000 (rdFlag (rdText 100 (rdNum (rdNum s).1).1).1).1).1,
    ⟨((rdNum s).2 : Int), ((rdNum (rdNum s).1).2 : Int), (rdText 100 (rdNum (rdNum s).1).1).2, (rdFlag (rdText 100 (rdNum (rdNum s).1).1).1).2, (rdText 8000 (rdFlag (rdText 100 (rdNum (rdNum s).1).1).1).1).2⟩)
noncomputable def rdNodes (s : Rd) : Rd × List NodeV :=
  ((rdMany rdNode (rdCount 100 s).2 (rdCount 100 s).1).1, if (rdMany rdNode (rdCount 100 s).2 (rdCount 100 s).1).1.2 = 0 then (rdMany rdNode (rdCount 100 s).2 (rdCount 100 s).1).2 else [])

/-- The block ga holds a record that the round makes; the reader is at s; nothing else of wr was written. -/
def RecAt (W : World) (g ga : Nat) (t : TypeId) (sz : Nat) (wr : World) (s : Rd) (f : Nat → Value) (w : World) : Prop :=
  InAt W g s w ∧ Only g wr w ∧ w.rowIs ga t sz f ∧ wr.heap.size ≤ ga ∧ W.heap.size ≤ ga ∧ ga ≠ g
namespace RecAt
variable {W wr w w' : World} {g ga : Nat} {t : TypeId} {sz : Nat} {s s' : Rd} {f : Nat → Value}
theorem start (h : InAt W g s w) (ho : Only g wr w) (hg : g < wr.heap.size) (c : Array Value) (t : TypeId) : RecAt W g w.heap.size t c.size wr s (fun i => (c[i]?).getD undef) (w.alloc (.cells c t)) := by
  have hb : Below w.heap.size w (w.alloc (.cells c t)) := (Below.refl _ _).alloc (Nat.le_refl _) _
  refine ⟨h.below hb, ho.trans (Only.of_below hb), World.rowIs_alloc w c t _ (fun i hi => by simp [hi]), ho.size, ?_, by have := ho.size; omega⟩
  obtain ⟨_, _, _, _, _, _, _, _, hb2⟩ := h
  exact hb2.size
theorem call (h : RecAt W g ga t sz wr s f w) (hin : InAt W g s' w') (hon : Only g w w') : RecAt W g ga t sz wr s' f w' := by
  obtain ⟨_, h2, h3, h4, h5, h6⟩ := h
  exact ⟨hin, h2.trans hon, h3.of_block (hon.block ga h3.lt h6), h4, h5, h6⟩
theorem store (h : RecAt W g ga t sz wr s f w) (i : Nat) (v : Value) : RecAt W g ga t sz wr s (fun j => if j = i then v else f j) (w.setCell ⟨ga, i, none⟩ v) := by
  obtain ⟨h1, h2, h3, h4, h5, h6⟩ := h
  refine ⟨h1.kept ((Only.refl ga w).set i v) h6.symm h5, ⟨h2.os, h2.tape, h2.output, by simpa [World.setCell] using h2.size, fun k hk hkg => ?_⟩, h3.set i v, h4, h5, h6⟩
  rw [Below.heap_setCell _ _ _ _ (by show k ≠ ga; omega)]
  exact h2.block k hk hkg
theorem cell (h : RecAt W g ga t sz wr s f w) (i : Nat) (hi : i < sz) : w.cell? ⟨ga, i, none⟩ = some (f i) ∧ w.frozen? ⟨ga, i, none⟩ = false := ⟨h.2.2.1.cell hi, h.2.2.1.frozen i⟩
end RecAt

set_option maxHeartbeats 2000000 in
set_option maxRecDepth 100000 in
theorem refInNodes_any (W : World) (g : Nat) (s : Rd) (hl : s.1.length ≤ 1099511627776) (w : World) (h : InAt W g s w) :
    Calls Try.prog 29 #[.pointer (some ⟨g, 0, none⟩)] w fun e w' =>
      (∃ A c, e = .returned (.slice A (rdNodes s).2.length c) ∧ NodesAt w' A (rdNodes s).2) ∧ InAt W g (rdNodes s).1 w' ∧ Only g w w' := by
  obtain ⟨i0, hi0, hz0, hz1, hz2⟩ := info_parts node_info
  have HI := Lib.hid (And.intro hi0 (And.intro hz0 (And.intro hz1 hz2)))
  clear hi0 hz0 hz1 hz2
  have GC := Lib.hid (refInCount_any W g s 100 w h)
  have hgl : g < w.heap.size := by obtain ⟨_, _, hr, _⟩ := h; exact hr.lt
  clear h
  have HSL : Hid ((rdCount 100 s).1.1.length ≤ 1099511627776) := Nat.le_trans (rdCount_length 100 s) hl
  clear hl
  have HCL := Lib.hid (rdCount_le 100 s)
  have HE : Hid (rdNodes s = ((rdMany rdNode (rdCount 100 s).2 (rdCount 100 s).1).1, if (rdMany rdNode (rdCount 100 s).2 (rdCount 100 s).1).1.2 = 0 then (rdMany rdNode (rdCount 100 s).2 (rdCount 100 s).1).2 else [])) := rfl
  obtain ⟨X, HX⟩ : ∃ X, Hid (rdCount 100 s = X) := ⟨_, rfl⟩
  rw [HX.out] at GC HCL HSL HE
  obtain ⟨s0, n⟩ := X
  simp only at GC HCL HSL HE
  have HGL := Lib.hid hgl; clear hgl
  have HEND : Hid (∀ (s1 : Rd) (l : List NodeV) (k : Nat), (k = n ∨ s1.2 ≠ 0) → k ≤ n → rdMany rdNode n s0 = ((rdMany rdNode (n - k) s1).1, l ++ (rdMany rdNode (n - k) s1).2) → rdNodes s = (s1, if s1.2 = 0 then l else [])) := by
    intro s1 l k hk hkn hm
    have h1 : rdMany rdNode (n - k) s1 = (s1, []) := by
      rcases hk with rfl | hk
      · rw [Nat.sub_self]; rfl
      · cases hnk : n - k with
        | zero => rfl
        | succ m => rw [rdMany, if_neg hk]
    rw [h1, List.append_nil] at hm
    rw [HE.out, hm]
  have HSTEP : Hid (∀ (s1 : Rd) (l : List NodeV) (k : Nat), s1.2 = 0 → k < n → rdMany rdNode n s0 = ((rdMany rdNode (n - k) s1).1, l ++ (rdMany rdNode (n - k) s1).2) →
      rdMany rdNode n s0 = ((rdMany rdNode (n - (k + 1)) (rdNode s1).1).1, (l ++ [(rdNode s1).2]) ++ (rdMany rdNode (n - (k + 1)) (rdNode s1).1).2)) := by
    intro s1 l k h0 hk hm
    rw [hm, show n - k = (n - (k + 1)) + 1 by omega, rdMany, if_pos h0]
    simp
  go_enter Try.func29, Try.ntmps29
  go_wp2_with fail
  refine GC.out.mono ?_
  rintro e w1 ⟨rfl, hin, hon⟩
  have HIN := Lib.hid hin; clear hin
  have HON := Lib.hid hon; clear hon
  have hn100 := HCL.out
  go_wp2
  go_loopw [4, 5] (fun v i wr => ∃ k : Nat, k ≤ n ∧ i = .int .i64 k ∧ ManyRel rdNode nodeCells 57 5 W w g n s0 k v wr) (fun _ i _ => n - (intOf i).toNat)
  case atStart => exact ⟨0, Nat.zero_le _, rfl, s0, [], HIN.out, HON.out, World.ownsRow_nil _ _ _ _, rfl, HSL.out, by simp⟩
  case round =>
    obtain ⟨k, hk, rfl, s1, l, hin, hon, hown, hlk, hsl, hm⟩ := hrel
    have HIN1 := Lib.hid hin; clear hin
    have HON1 := Lib.hid hon; clear hon
    have HOWN := Lib.hid hown; clear hown
    have HM := Lib.hid hm; clear hm
    have HSL1 := Lib.hid hsl; clear hsl
    have HLK := Lib.hid hlk; clear hlk
    obtain ⟨A4, c4, rfl⟩ := own_slice HOWN.out
    obtain ⟨c1, f1⟩ := HIN1.out.cell1
    obtain ⟨L1, E1⟩ := s1
    simp only at c1
    by_cases hE : E1 = 0
    · subst hE
      by_cases hlt : k < n
      · have hst := HSTEP.out (L1, 0) l k rfl hlt HM.out
        have HST := Lib.hid hst; clear hst
        have HRC : Hid (rdNode (L1, 0) = ((rdText 8000 (rdFlag (rdText 100 (rdNum (rdNum (L1, 0)).1).1).1).1).1,
          ⟨((rdNum (L1, 0)).2 : Int), ((rdNum (rdNum (L1, 0)).1).2 : Int), (rdText 100 (rdNum (rdNum (L1, 0)).1).1).2, (rdFlag (rdText 100 (rdNum (rdNum (L1, 0)).1).1).1).2, (rdText 8000 (rdFlag (rdText 100 (rdNum (rdNum (L1, 0)).1).1).1).1).2⟩)) := rfl
        have G1 := Lib.hid (fun w h => refInNum_any W g (L1, 0) w h)
        have HB1 := Lib.hid (Nat.le_trans (rdNum_length (L1, 0)) HSL1.out)
        obtain ⟨X1, HX1⟩ : ∃ X, Hid (rdNum (L1, 0) = X) := ⟨_, rfl⟩
        rw [HX1.out] at G1 HB1 HRC
        obtain ⟨s2, n1⟩ := X1
        simp only at G1 HB1 HRC
        have G2 := Lib.hid (fun w h => refInNum_any W g s2 w h)
        have HB2 := Lib.hid (Nat.le_trans (rdNum_length s2) HB1.out)
        obtain ⟨X2, HX2⟩ : ∃ X, Hid (rdNum s2 = X) := ⟨_, rfl⟩
        rw [HX2.out] at G2 HB2 HRC
        obtain ⟨s3, n2⟩ := X2
        simp only at G2 HB2 HRC
        have G3 := Lib.hid (fun w h => refInText_any W g s3 100 HB2.out w h)
        have HB3 := Lib.hid (Nat.le_trans (rdText_length 100 s3) HB2.out)
        obtain ⟨X3, HX3⟩ : ∃ X, Hid (rdText 100 s3 = X) := ⟨_, rfl⟩
        rw [HX3.out] at G3 HB3 HRC
        obtain ⟨s4, t3⟩ := X3
        simp only at G3 HB3 HRC
        have G4 := Lib.hid (fun w h => refInFlag_any W g s4 w h)
        have HB4 := Lib.hid (Nat.le_trans (rdFlag_length s4) HB3.out)
        obtain ⟨X4, HX4⟩ : ∃ X, Hid (rdFlag s4 = X) := ⟨_, rfl⟩
        rw [HX4.out] at G4 HB4 HRC
        obtain ⟨s5, b4⟩ := X4
        simp only at G4 HB4 HRC
        have G5 := Lib.hid (fun w h => refInText_any W g s5 8000 HB4.out w h)
        have HB5 := Lib.hid (Nat.le_trans (rdText_length 8000 s5) HB4.out)
        obtain ⟨X5, HX5⟩ : ∃ X, Hid (rdText 8000 s5 = X) := ⟨_, rfl⟩
        rw [HX5.out] at G5 HB5 HRC
        obtain ⟨s6, t5⟩ := X5
        simp only at G5 HB5 HRC
        rw [HRC.out] at HST
        simp only at HST
        go_wp2_with fail
        refine (G1.out _ HIN1.out).mono ?_
        rintro e w2 ⟨rfl, hin2, hon2⟩
        have HIN2 := Lib.hid hin2; have HON2 := Lib.hid hon2; clear hin2 hon2
        go_wp2_with fail
        have HR := Lib.hid (RecAt.start HIN2.out HON2.out (Nat.lt_of_lt_of_le HGL.out HON1.out.size) #[.int .i64 (n1 : Int), .int .i64 0, .string { data := #[] }, .bool false, .string { data := #[] }] 57)
        generalize w2.alloc (.cells #[.int .i64 (n1 : Int), .int .i64 0, .string { data := #[] }, .bool false, .string { data := #[] }] 57) = w3 at HR ⊢
        generalize w2.heap.size = ga at HR ⊢
        clear HIN2 c1 f1
        refine (G2.out _ HR.out.1).mono ?_
        rintro e w4 ⟨rfl, hin, hon⟩
        have HR4 := Lib.hid (HR.out.call hin hon)
        clear hin hon HR
        obtain ⟨ca, fa⟩ := HR4.out.cell 1 (by show 1 < 5; omega)
        have HR := Lib.hid (HR4.out.store 1 (.int .i64 (n2 : Int)))
        go_wp2_with fail
        generalize w4.setCell ⟨ga, 1, none⟩ (.int .i64 (n2 : Int)) = w3 at HR ⊢
        clear ca fa HR4
        refine (G3.out _ HR.out.1).mono ?_
        rintro e w4 ⟨rfl, hin, hon⟩
        have HR4 := Lib.hid (HR.out.call hin hon)
        clear hin hon HR
        obtain ⟨ca, fa⟩ := HR4.out.cell 2 (by show 2 < 5; omega)
        have HR := Lib.hid (HR4.out.store 2 (.string (bstr t3)))
        go_wp2_with fail
        generalize w4.setCell ⟨ga, 2, none⟩ (.string (bstr t3)) = w3 at HR ⊢
        clear ca fa HR4
        refine (G4.out _ HR.out.1).mono ?_
        rintro e w4 ⟨rfl, hin, hon⟩
        have HR4 := Lib.hid (HR.out.call hin hon)
        clear hin hon HR
        obtain ⟨ca, fa⟩ := HR4.out.cell 3 (by show 3 < 5; omega)
        have HR := Lib.hid (HR4.out.store 3 (.bool b4))
        go_wp2_with fail
        generalize w4.setCell ⟨ga, 3, none⟩ (.bool b4) = w3 at HR ⊢
        clear ca fa HR4
        refine (G5.out _ HR.out.1).mono ?_
        rintro e w4 ⟨rfl, hin, hon⟩
        have HR4 := Lib.hid (HR.out.call hin hon)
        clear hin hon HR
        obtain ⟨ca, fa⟩ := HR4.out.cell 4 (by show 4 < 5; omega)
        have HR := Lib.hid (HR4.out.store 4 (.string (bstr t5)))
        have d0 : w4.cell? ⟨ga, 0, none⟩ = some (.int .i64 (n1 : Int)) := (HR4.out.cell 0 (by show 0 < 5; omega)).1
        have d1 : w4.cell? ⟨ga, 1, none⟩ = some (.int .i64 (n2 : Int)) := (HR4.out.cell 1 (by show 1 < 5; omega)).1
        have d2 : w4.cell? ⟨ga, 2, none⟩ = some (.string (bstr t3)) := (HR4.out.cell 2 (by show 2 < 5; omega)).1
        have d3 : w4.cell? ⟨ga, 3, none⟩ = some (.bool b4) := (HR4.out.cell 3 (by show 3 < 5; omega)).1
        have hsz : (w4.setCell ⟨ga, 4, none⟩ (.string (bstr t5))).heap.size = w4.heap.size := by simp [World.setCell]
        have HSZ := Lib.hid hsz; clear hsz
        have HO4 := Lib.hid (own_only HOWN.out HR.out.2.1 HGL.out)
        have HU4 := Lib.hid (HON1.out.trans HR.out.2.1)
        have HU5 := Lib.hid (HU4.out.trans (Only.of_below ((Below.refl _ _).alloc (Nat.le_refl _) (.cells #[.int .i64 (n1 : Int), .int .i64 (n2 : Int), .string (bstr t3), .bool b4, .string (bstr t5)] 57))))
        have HIN5 := Lib.hid (HR.out.1.below ((Below.refl _ _).alloc (Nat.le_refl _) (.cells #[.int .i64 (n1 : Int), .int .i64 (n2 : Int), .string (bstr t3), .bool b4, .string (bstr t5)] 57)))
        go_wp2_with (at_builtin
                     refine wpList_append_own_wide _ rfl (.tmp 36) (.tmp 38) 47 rfl w.heap.size 57 i0 (.agg #[.int .i64 0, .int .i64 0, .string { data := #[] }, .bool false, .string { data := #[] }]) 5 56 Try.underlying47 HI.out.1 HI.out.2.1 HI.out.2.2.1 HI.out.2.2.2 rfl (by omega) (.slice A4 l.length c4) l.length (l.flatMap nodeCells) rfl (HO4.out.alloc _) ⟨w4.heap.size, 0, none⟩ 1 1 [.int .i64 (n1 : Int), .int .i64 (n2 : Int), .string (bstr t3), .bool b4, .string (bstr t5)] rfl rfl ?_ ?_ (by have := HLK.out; simp only [maxLen]; omega) (by have := HLK.out; omega) (by have := HU5.out.size; exact this) ?_
                     · intro j u hj
                       rw [Go.WideShapes.add_plain, Nat.zero_add, ← HSZ.out, cell_of_row _ _ _ _ _ _ (heap_alloc_new _ _)]
                       simpa using hj
                     · intro u hu; simp at hu; rcases hu with rfl | rfl | rfl | rfl | rfl <;> rfl
                     intro v6 w6 hown6 hgr6 _
                     have HOWN6 := Lib.hid hown6
                     have HU6 := Lib.hid (HU5.out.grown hgr6 (fun k hk => (HO4.out.lt k hk).1))
                     have HIN6 := Lib.hid (HIN5.out.grown hgr6 (fun k hk => Nat.lt_of_lt_of_le HGL.out (HO4.out.lt k hk).1))
                     clear hown6 hgr6)
        go_roundw
        case rel =>
          refine ⟨k + 1, by omega, by go_num, s6, l ++ [⟨(n1 : Int), (n2 : Int), t3, b4, t5⟩], HIN6.out, HU6.out, ?_, by rw [List.length_append, HLK.out]; rfl, HB5.out, HST.out⟩
          rw [List.length_append, List.flatMap_append]
          simpa [nodeCells] using HOWN6.out
        case measure => simp [intOf]; omega
      · have e : Hid (rdNodes s = ((L1, 0), l)) := HEND.out (L1, 0) l k (.inl (by omega)) hk HM.out
        have HAT : Hid (NodesAt wr A4 l) := CellsAt.of_own HOWN.out
        go_wp2
        go_ret
        rw [e.out]
        exact ⟨⟨A4, ⟨c4, rfl⟩, HAT.out⟩, HIN1.out, HON1.out⟩
    · have e : Hid (rdNodes s = ((L1, E1), [])) := by
        have := HEND.out (L1, E1) l k (.inr hE) hk HM.out
        rw [if_neg hE] at this
        exact this
      have hE' : ((E1 : Int) == 0) = false := beq_eq_false_iff_ne.2 (by omega)
      by_cases hlt : k < n
      all_goals
        go_wp2
        go_ret
        rw [e.out]
        exact ⟨⟨none, ⟨0, rfl⟩, .inl rfl⟩, HIN1.out, HON1.out⟩
end Go.Proofs.Ytkapfijokmajlaa

/- The document's own reader: Acts. Condition: no more than 2^40 bytes. -/
namespace Go.Proofs.Ytkapfijokmajlaa
open Go.RowKit Go.Deep

theorem act_info : (Try.prog.info? 55).map (fun i => (i.zero, i.size, i.bytes)) = some (some (.agg #[.int .i64 0, .int .i64 0, .int .i64 0, .string { data := #[] }, .bool false, .slice none 0 0]), 6, 72) := by kernel_rfl
theorem rdMany_length {α : Type} (f : Rd → Rd × α) (hf : ∀ s, (f s).1.1.length ≤ s.1.length) : ∀ (n : Nat) (s : Rd), (rdMany f n s).1.1.length ≤ s.1.length := by
  intro n
  induction n with
  | zero => intro s; exact Nat.le_refl _
  | succ n ih =>
    intro s
    rw [rdMany]
    split
    · exact Nat.le_trans (ih _) (hf s)
    · exact Nat.le_refl _
theorem rdComps_length (s : Rd) : (rdComps s).1.1.length ≤ s.1.length :=
  Nat.le_trans (rdMany_length rdComp (fun s => Nat.le_trans (rdText_length 8000 _) (Nat.le_trans (rdNum_length _) (rdNum_length s))) _ _) (rdCount_length 100 s)
/-- An act, but for where its parts lie. -/
def strip (y : ActV) : ActV := ⟨y.kind, y.id, y.parent, y.name, y.dir, none, 0, y.ops⟩
noncomputable def rdAct (s : Rd) : Rd × ActV :=
  ((rdComps (rdFlag (rdText 100 (rdNum (rdNum (rdNum s).1).1).1).1).1).1,
    ⟨((rdNum s).2 : Int), ((rdNum (rdNum s).1).2 : Int), ((rdNum (rdNum (rdNum s).1).1).2 : Int), (rdText 100 (rdNum (rdNum (rdNum s).1).1).1).2, (rdFlag (rdText 100 (rdNum (rdNum (rdNum s).1).1).1).1).2, none, 0, (rdComps (rdFlag (rdText 100 (rdNum (rdNum (rdNum s).1).1).1).1).1).2⟩)
noncomputable def rdActs (s : Rd) : Rd × List ActV :=
  ((rdMany rdAct (rdCount 20 s).2 (rdCount 20 s).1).1, if (rdMany rdAct (rdCount 20 s).2 (rdCount 20 s).1).1.2 = 0 then (rdMany rdAct (rdCount 20 s).2 (rdCount 20 s).1).2 else [])

/-- The parts of each act lie in rows of their own, above g. -/
def Owns (g : Nat) (l : List ActV) (w : World) : Prop := ∀ y ∈ l, w.ownsRow (g + 1) 94 3 (.slice y.opsA y.ops.length y.opsC) y.ops.length (y.ops.flatMap compCells)
theorem Owns.only {g : Nat} {l : List ActV} {w w' : World} (h : Owns g l w) (ho : Only g w w') : Owns g l w' := fun y hy => own_only (h y hy) ho (Nat.lt_succ_self g)
theorem own_base {w : World} {base base' : Nat} {e : TypeId} {size : Nat} {v : Value} {n : Nat} {xs : List Value} (h : w.ownsRow base e size v n xs) (hb : base' ≤ base) : w.ownsRow base' e size v n xs := by
  refine ⟨h.1, ?_⟩
  rcases h.2 with h2 | ⟨g', cap, cur, hv, hgb, hh, h3, h4, h5⟩
  · exact .inl h2
  · exact .inr ⟨g', cap, cur, hv, by omega, hh, h3, h4, h5⟩
/-- A row of another type than the one that has grown. -/
theorem own_grown {w w' : World} {base base2 : Nat} {e e2 : TypeId} {size size2 : Nat} {v v2 : Value} {n n2 : Nat} {xs xs2 : List Value} (h : w.ownsRow base e size v n xs) (h2 : w.ownsRow base2 e2 size2 v2 n2 xs2) (he : e ≠ e2) (hg : w.grownBy w' v2.ownBlock) : w'.ownsRow base e size v n xs := by
  refine ⟨h.1, ?_⟩
  rcases h.2 with h0 | ⟨g', cap, cur, hv, hgb, hh, h3, h4, h5⟩
  · exact .inl h0
  · have hlt : g' < w.heap.size := by
      rcases Nat.lt_or_ge g' w.heap.size with hlt | hge
      · exact hlt
      · rw [Array.getElem?_eq_none hge] at hh; cases hh
    refine .inr ⟨g', cap, cur, hv, hgb, ?_, h3, h4, h5⟩
    rw [hg.block g' hlt ?_]
    · exact hh
    · intro e0
      rcases h2.2 with ⟨rfl, _⟩ | ⟨g2, cap2, cur2, rfl, _, hh2, _⟩
      · simp [Value.ownBlock] at e0
      · simp [Value.ownBlock] at e0
        subst e0
        rw [hh] at hh2
        injection hh2 with hh2
        injection hh2 with _ hh2
        exact he hh2
/-- What the loop holds behind k rounds. -/
def ActsRel (W w : World) (g n : Nat) (s0 : Rd) (k : Nat) (v : Value) (wr : World) : Prop :=
  ∃ s l, InAt W g s wr ∧ Only g w wr ∧ wr.ownsRow w.heap.size 55 6 v l.length (l.flatMap actCells) ∧ l.length = k ∧ s.1.length ≤ 1099511627776 ∧ rdMany rdAct n s0 = ((rdMany rdAct (n - k) s).1, l.map strip ++ (rdMany rdAct (n - k) s).2) ∧ Owns g l wr
/-- What Acts answers. -/
def ActsOut (w : World) (g : Nat) (r : List ActV) (e : Ending) (w' : World) : Prop :=
  ∃ l A c, l.map strip = r ∧ e = .returned (.slice A l.length c) ∧ w'.ownsRow w.heap.size 55 6 (.slice A l.length c) l.length (l.flatMap actCells) ∧ Owns g l w'

set_option maxHeartbeats 2000000 in
set_option maxRecDepth 100000 in
theorem refInActs_any (W : World) (g : Nat) (s : Rd) (hl : s.1.length ≤ 1099511627776) (w : World) (h : InAt W g s w) :
    Calls Try.prog 26 #[.pointer (some ⟨g, 0, none⟩)] w fun e w' =>
      ActsOut w g (rdActs s).2 e w' ∧ InAt W g (rdActs s).1 w' ∧ Only g w w' := by
  obtain ⟨i0, hi0, hz0, hz1, hz2⟩ := info_parts act_info
  have HI := Lib.hid (And.intro hi0 (And.intro hz0 (And.intro hz1 hz2)))
  clear hi0 hz0 hz1 hz2
  have GC := Lib.hid (refInCount_any W g s 20 w h)
  have hgl : g < w.heap.size := by obtain ⟨_, _, hr, _⟩ := h; exact hr.lt
  clear h
  have HSL : Hid ((rdCount 20 s).1.1.length ≤ 1099511627776) := Nat.le_trans (rdCount_length 20 s) hl
  clear hl
  have HCL := Lib.hid (rdCount_le 20 s)
  have HE : Hid (rdActs s = ((rdMany rdAct (rdCount 20 s).2 (rdCount 20 s).1).1, if (rdMany rdAct (rdCount 20 s).2 (rdCount 20 s).1).1.2 = 0 then (rdMany rdAct (rdCount 20 s).2 (rdCount 20 s).1).2 else [])) := rfl
  obtain ⟨X, HX⟩ : ∃ X, Hid (rdCount 20 s = X) := ⟨_, rfl⟩
  rw [HX.out] at GC HCL HSL HE
  obtain ⟨s0, n⟩ := X
  simp only at GC HCL HSL HE
  have HGL := Lib.hid hgl; clear hgl
  have HEND : Hid (∀ (s1 : Rd) (l : List ActV) (k : Nat), (k = n ∨ s1.2 ≠ 0) → k ≤ n → rdMany rdAct n s0 = ((rdMany rdAct (n - k) s1).1, l ++ (rdMany rdAct (n - k) s1).2) → rdActs s = (s1, if s1.2 = 0 then l else [])) := by
    intro s1 l k hk hkn hm
    have h1 : rdMany rdAct (n - k) s1 = (s1, []) := by
      rcases hk with rfl | hk
      · rw [Nat.sub_self]; rfl
      · cases hnk : n - k with
        | zero => rfl
        | succ m => rw [rdMany, if_neg hk]
    rw [h1, List.append_nil] at hm
    rw [HE.out, hm]
  have HSTEP : Hid (∀ (s1 : Rd) (l : List ActV) (k : Nat), s1.2 = 0 → k < n → rdMany rdAct n s0 = ((rdMany rdAct (n - k) s1).1, l ++ (rdMany rdAct (n - k) s1).2) →
      rdMany rdAct n s0 = ((rdMany rdAct (n - (k + 1)) (rdAct s1).1).1, (l ++ [(rdAct s1).2]) ++ (rdMany rdAct (n - (k + 1)) (rdAct s1).1).2)) := by
    intro s1 l k h0 hk hm
    rw [hm, show n - k = (n - (k + 1)) + 1 by omega, rdMany, if_pos h0]
    simp
  go_enter Try.func26, Try.ntmps26
  go_wp2_with fail
  refine GC.out.mono ?_
  rintro e w1 ⟨rfl, hin, hon⟩
  have HIN := Lib.hid hin; clear hin
  have HON := Lib.hid hon; clear hon
  have hn100 := HCL.out
  go_wp2
  go_loopw [4, 5] (fun v i wr => ∃ k : Nat, k ≤ n ∧ i = .int .i64 k ∧ ActsRel W w g n s0 k v wr) (fun _ i _ => n - (intOf i).toNat)
  case atStart => exact ⟨0, Nat.zero_le _, rfl, s0, [], HIN.out, HON.out, World.ownsRow_nil _ _ _ _, rfl, HSL.out, by simp, fun y hy => by simp at hy⟩
  case round =>
    obtain ⟨k, hk, rfl, s1, l, hin, hon, hown, hlk, hsl, hm, hows⟩ := hrel
    have HOWS := Lib.hid hows; clear hows
    have HIN1 := Lib.hid hin; clear hin
    have HON1 := Lib.hid hon; clear hon
    have HOWN := Lib.hid hown; clear hown
    have HM := Lib.hid hm; clear hm
    have HSL1 := Lib.hid hsl; clear hsl
    have HLK := Lib.hid hlk; clear hlk
    obtain ⟨A4, c4, rfl⟩ := own_slice HOWN.out
    obtain ⟨c1, f1⟩ := HIN1.out.cell1
    obtain ⟨L1, E1⟩ := s1
    simp only at c1
    by_cases hE : E1 = 0
    · subst hE
      by_cases hlt : k < n
      · have hst := HSTEP.out (L1, 0) (l.map strip) k rfl hlt HM.out
        have HST := Lib.hid hst; clear hst
        have HRC : Hid (rdAct (L1, 0) = ((rdComps (rdFlag (rdText 100 (rdNum (rdNum (rdNum (L1, 0)).1).1).1).1).1).1, ⟨((rdNum (L1, 0)).2 : Int), ((rdNum (rdNum (L1, 0)).1).2 : Int), ((rdNum (rdNum (rdNum (L1, 0)).1).1).2 : Int), (rdText 100 (rdNum (rdNum (rdNum (L1, 0)).1).1).1).2, (rdFlag (rdText 100 (rdNum (rdNum (rdNum (L1, 0)).1).1).1).1).2, none, 0, (rdComps (rdFlag (rdText 100 (rdNum (rdNum (rdNum (L1, 0)).1).1).1).1).1).2⟩)) := rfl
        have G1 := Lib.hid (fun w h => refInNum_any W g (L1, 0) w h)
        have HB1 := Lib.hid (Nat.le_trans (rdNum_length (L1, 0)) HSL1.out)
        obtain ⟨X1, HX1⟩ : ∃ X, Hid (rdNum (L1, 0) = X) := ⟨_, rfl⟩
        rw [HX1.out] at G1 HB1 HRC
        obtain ⟨s2, n1⟩ := X1
        simp only at G1 HB1 HRC
        have G2 := Lib.hid (fun w h => refInNum_any W g s2 w h)
        have HB2 := Lib.hid (Nat.le_trans (rdNum_length s2) HB1.out)
        obtain ⟨X2, HX2⟩ : ∃ X, Hid (rdNum s2 = X) := ⟨_, rfl⟩
        rw [HX2.out] at G2 HB2 HRC
        obtain ⟨s3, n2⟩ := X2
        simp only at G2 HB2 HRC
        have G3 := Lib.hid (fun w h => refInNum_any W g s3 w h)
        have HB3 := Lib.hid (Nat.le_trans (rdNum_length s3) HB2.out)
        obtain ⟨X3, HX3⟩ : ∃ X, Hid (rdNum s3 = X) := ⟨_, rfl⟩
        rw [HX3.out] at G3 HB3 HRC
        obtain ⟨s4, n3⟩ := X3
        simp only at G3 HB3 HRC
        have G4 := Lib.hid (fun w h => refInText_any W g s4 100 HB3.out w h)
        have HB4 := Lib.hid (Nat.le_trans (rdText_length 100 s4) HB3.out)
        obtain ⟨X4, HX4⟩ : ∃ X, Hid (rdText 100 s4 = X) := ⟨_, rfl⟩
        rw [HX4.out] at G4 HB4 HRC
        obtain ⟨s5, t4⟩ := X4
        simp only at G4 HB4 HRC
        have G5 := Lib.hid (fun w h => refInFlag_any W g s5 w h)
        have HB5 := Lib.hid (Nat.le_trans (rdFlag_length s5) HB4.out)
        obtain ⟨X5, HX5⟩ : ∃ X, Hid (rdFlag s5 = X) := ⟨_, rfl⟩
        rw [HX5.out] at G5 HB5 HRC
        obtain ⟨s6, b5⟩ := X5
        simp only at G5 HB5 HRC
        have G6 := Lib.hid (fun w h => refInComps_any W g s6 HB5.out w h)
        have HB6 := Lib.hid (Nat.le_trans (rdComps_length s6) HB5.out)
        obtain ⟨X6, HX6⟩ : ∃ X, Hid (rdComps s6 = X) := ⟨_, rfl⟩
        rw [HX6.out] at G6 HB6 HRC
        obtain ⟨s7, o6⟩ := X6
        simp only at G6 HB6 HRC
        rw [HRC.out] at HST
        simp only at HST
        go_wp2_with fail
        refine (G1.out _ HIN1.out).mono ?_
        rintro e w2 ⟨rfl, hin2, hon2⟩
        have HIN2 := Lib.hid hin2; have HON2 := Lib.hid hon2; clear hin2 hon2
        go_wp2_with fail
        have HR := Lib.hid (RecAt.start HIN2.out HON2.out (Nat.lt_of_lt_of_le HGL.out HON1.out.size) #[.int .i64 (n1 : Int), .int .i64 0, .int .i64 0, .string { data := #[] }, .bool false, .slice none 0 0] 55)
        generalize w2.alloc (.cells #[.int .i64 (n1 : Int), .int .i64 0, .int .i64 0, .string { data := #[] }, .bool false, .slice none 0 0] 55) = w3 at HR ⊢
        generalize w2.heap.size = ga at HR ⊢
        clear HIN2 c1 f1
        refine (G2.out _ HR.out.1).mono ?_
        rintro e w4 ⟨rfl, hin, hon⟩
        have HR4 := Lib.hid (HR.out.call hin hon)
        clear hin hon HR
        obtain ⟨ca, fa⟩ := HR4.out.cell 1 (by show 1 < 6; omega)
        have HR := Lib.hid (HR4.out.store 1 (.int .i64 (n2 : Int)))
        go_wp2_with fail
        generalize w4.setCell ⟨ga, 1, none⟩ (.int .i64 (n2 : Int)) = w3 at HR ⊢
        clear ca fa HR4
        refine (G3.out _ HR.out.1).mono ?_
        rintro e w4 ⟨rfl, hin, hon⟩
        have HR4 := Lib.hid (HR.out.call hin hon)
        clear hin hon HR
        obtain ⟨ca, fa⟩ := HR4.out.cell 2 (by show 2 < 6; omega)
        have HR := Lib.hid (HR4.out.store 2 (.int .i64 (n3 : Int)))
        go_wp2_with fail
        generalize w4.setCell ⟨ga, 2, none⟩ (.int .i64 (n3 : Int)) = w3 at HR ⊢
        clear ca fa HR4
        refine (G4.out _ HR.out.1).mono ?_
        rintro e w4 ⟨rfl, hin, hon⟩
        have HR4 := Lib.hid (HR.out.call hin hon)
        clear hin hon HR
        obtain ⟨ca, fa⟩ := HR4.out.cell 3 (by show 3 < 6; omega)
        have HR := Lib.hid (HR4.out.store 3 (.string (bstr t4)))
        go_wp2_with fail
        generalize w4.setCell ⟨ga, 3, none⟩ (.string (bstr t4)) = w3 at HR ⊢
        clear ca fa HR4
        refine (G5.out _ HR.out.1).mono ?_
        rintro e w4 ⟨rfl, hin, hon⟩
        have HR4 := Lib.hid (HR.out.call hin hon)
        clear hin hon HR
        obtain ⟨ca, fa⟩ := HR4.out.cell 4 (by show 4 < 6; omega)
        have HR := Lib.hid (HR4.out.store 4 (.bool b5))
        go_wp2_with fail
        generalize w4.setCell ⟨ga, 4, none⟩ (.bool b5) = w3 at HR ⊢
        clear ca fa HR4
        refine (G6.out _ HR.out.1).mono ?_
        rintro e w4 ⟨⟨A6, c6, rfl, how6⟩, hin, hon⟩
        have HO6 := Lib.hid (own_base (base' := ga + 1) how6 (by have := HR.out.2.2.1.lt; omega))
        clear how6
        have HR4 := Lib.hid (HR.out.call hin hon)
        clear hin hon HR
        obtain ⟨ca, fa⟩ := HR4.out.cell 5 (by show 5 < 6; omega)
        have HR := Lib.hid (HR4.out.store 5 (.slice A6 o6.length c6))
        have d0 : w4.cell? ⟨ga, 0, none⟩ = some (.int .i64 (n1 : Int)) := (HR4.out.cell 0 (by show 0 < 6; omega)).1
        have d1 : w4.cell? ⟨ga, 1, none⟩ = some (.int .i64 (n2 : Int)) := (HR4.out.cell 1 (by show 1 < 6; omega)).1
        have d2 : w4.cell? ⟨ga, 2, none⟩ = some (.int .i64 (n3 : Int)) := (HR4.out.cell 2 (by show 2 < 6; omega)).1
        have d3 : w4.cell? ⟨ga, 3, none⟩ = some (.string (bstr t4)) := (HR4.out.cell 3 (by show 3 < 6; omega)).1
        have d4 : w4.cell? ⟨ga, 4, none⟩ = some (.bool b5) := (HR4.out.cell 4 (by show 4 < 6; omega)).1
        have hsz : (w4.setCell ⟨ga, 5, none⟩ (.slice A6 o6.length c6)).heap.size = w4.heap.size := by simp [World.setCell]
        have HSZ := Lib.hid hsz; clear hsz
        have HO4 := Lib.hid (own_only HOWN.out HR.out.2.1 HGL.out)
        have HU4 := Lib.hid (HON1.out.trans HR.out.2.1)
        have HGA : Hid (g + 1 ≤ ga + 1) := by
          have h1 := HR.out.2.2.2.1
          have h2 := HON1.out.size
          have h3 := HGL.out
          show g + 1 ≤ ga + 1
          omega
        have HOWS4 : Hid (Owns g (l ++ [⟨(n1 : Int), (n2 : Int), (n3 : Int), t4, b5, A6, c6, o6⟩]) (w4.setCell ⟨ga, 5, none⟩ (.slice A6 o6.length c6))) := by
          intro y hy
          rcases List.mem_append.1 hy with hy | hy
          · exact HOWS.out.only HR.out.2.1 y hy
          · rw [List.mem_singleton.1 hy]
            exact own_base (ownsRow_setCell_below HO6.out (a := ⟨ga, 5, none⟩) (by show ga < ga + 1; omega) _) HGA.out
        have HOWS5 : Hid (Owns g (l ++ [⟨(n1 : Int), (n2 : Int), (n3 : Int), t4, b5, A6, c6, o6⟩]) ((w4.setCell ⟨ga, 5, none⟩ (.slice A6 o6.length c6)).alloc (.cells #[.int .i64 (n1 : Int), .int .i64 (n2 : Int), .int .i64 (n3 : Int), .string (bstr t4), .bool b5, .slice A6 o6.length c6] 55))) := fun y hy => (HOWS4.out y hy).alloc _
        have HU5 := Lib.hid (HU4.out.trans (Only.of_below ((Below.refl _ _).alloc (Nat.le_refl _) (.cells #[.int .i64 (n1 : Int), .int .i64 (n2 : Int), .int .i64 (n3 : Int), .string (bstr t4), .bool b5, .slice A6 o6.length c6] 55))))
        have HIN5 := Lib.hid (HR.out.1.below ((Below.refl _ _).alloc (Nat.le_refl _) (.cells #[.int .i64 (n1 : Int), .int .i64 (n2 : Int), .int .i64 (n3 : Int), .string (bstr t4), .bool b5, .slice A6 o6.length c6] 55)))
        go_wp2_with (at_builtin
                     refine wpList_append_own_wide _ rfl (.tmp 39) (.tmp 41) 44 rfl w.heap.size 55 i0 (.agg #[.int .i64 0, .int .i64 0, .int .i64 0, .string { data := #[] }, .bool false, .slice none 0 0]) 6 72 Try.underlying44 HI.out.1 HI.out.2.1 HI.out.2.2.1 HI.out.2.2.2 rfl (by omega) (.slice A4 l.length c4) l.length (l.flatMap actCells) rfl (HO4.out.alloc _) ⟨w4.heap.size, 0, none⟩ 1 1 [.int .i64 (n1 : Int), .int .i64 (n2 : Int), .int .i64 (n3 : Int), .string (bstr t4), .bool b5, .slice A6 o6.length c6] rfl rfl ?_ ?_ (by have := HLK.out; simp only [maxLen]; omega) (by have := HLK.out; omega) (by have := HU5.out.size; exact this) ?_
                     · intro j u hj
                       rw [Go.WideShapes.add_plain, Nat.zero_add, ← HSZ.out, cell_of_row _ _ _ _ _ _ (heap_alloc_new _ _)]
                       simpa using hj
                     · intro u hu; simp at hu; rcases hu with rfl | rfl | rfl | rfl | rfl | rfl <;> rfl
                     intro v6 w6 hown6 hgr6 _
                     have HOWN6 := Lib.hid hown6
                     have HU6 := Lib.hid (HU5.out.grown hgr6 (fun k hk => (HO4.out.lt k hk).1))
                     have HIN6 := Lib.hid (HIN5.out.grown hgr6 (fun k hk => Nat.lt_of_lt_of_le HGL.out (HO4.out.lt k hk).1))
                     have HOWS6 : Hid (Owns g (l ++ [⟨(n1 : Int), (n2 : Int), (n3 : Int), t4, b5, A6, c6, o6⟩]) w6) := fun y hy => own_grown (HOWS5.out y hy) (HO4.out.alloc _) (by decide) hgr6
                     clear hown6 hgr6)
        go_roundw
        case rel =>
          refine ⟨k + 1, by omega, by go_num, s7, l ++ [⟨(n1 : Int), (n2 : Int), (n3 : Int), t4, b5, A6, c6, o6⟩], HIN6.out, HU6.out, ?_, by rw [List.length_append, HLK.out]; rfl, HB6.out, ?_, HOWS6.out⟩
          · rw [List.length_append, List.flatMap_append]
            simpa [actCells] using HOWN6.out
          · rw [List.map_append]
            exact HST.out
        case measure => simp [intOf]; omega
      · have e : Hid (rdActs s = ((L1, 0), l.map strip)) := HEND.out (L1, 0) (l.map strip) k (.inl (by omega)) hk HM.out
        go_wp2
        go_ret
        rw [e.out]
        exact ⟨⟨l, A4, c4, rfl, rfl, HOWN.out, HOWS.out⟩, HIN1.out, HON1.out⟩
    · have e : Hid (rdActs s = ((L1, E1), [])) := by
        have := HEND.out (L1, E1) (l.map strip) k (.inr hE) hk HM.out
        rw [if_neg hE] at this
        exact this
      have hE' : ((E1 : Int) == 0) = false := beq_eq_false_iff_ne.2 (by omega)
      by_cases hlt : k < n
      all_goals
        go_wp2
        go_ret
        rw [e.out]
        exact ⟨⟨[], none, 0, rfl, rfl, World.ownsRow_nil _ _ _ _, fun y hy => by simp at hy⟩, HIN1.out, HON1.out⟩
end Go.Proofs.Ytkapfijokmajlaa

/- The document's own Same of two slices of parts: true of two that read as the same. Condition: no slice is longer than memory. -/
namespace Go.Proofs.Ytkapfijokmajlaa
open Go.RowKit Go.Deep

set_option maxHeartbeats 2000000 in
set_option maxRecDepth 100000 in
theorem refSame_alike (A B : Option Addr) (ca cb : Nat) (l : List CompV) (hl : l.length ≤ maxLen) (w : World) (hA : CompsAt w A l) (hB : CompsAt w B l) :
    Calls Try.prog 21 #[.slice A l.length ca, .slice B l.length cb] w fun e w' => e = .returned (.bool true) ∧ Below w.heap.size w w' := by
  unfold maxLen at hl
  have HA := Lib.hid hA; clear hA
  have HB := Lib.hid hB; clear hB
  go_enter Try.func21, Try.ntmps21
  go_wp2
  go_loopw [5] (fun i wr => ∃ k : Nat, k ≤ l.length ∧ i = .int .i64 k ∧ Below w.heap.size w wr) (fun i _ => l.length - (intOf i).toNat)
  case atStart => exact ⟨0, Nat.zero_le _, rfl, Below.refl _ _⟩
  case round =>
    obtain ⟨k, hk, rfl, hbel⟩ := hrel
    have HBEL := Lib.hid hbel; clear hbel
    by_cases hlt : k < l.length
    · obtain ⟨b1, o1, rfl, _⟩ := HA.out.form (by omega)
      obtain ⟨b2, o2, rfl, _⟩ := HB.out.form (by omega)
      obtain ⟨x0, x1, x2⟩ := (HA.out.below HBEL.out).at_ hlt
      obtain ⟨y0, y1, y2⟩ := (HB.out.below HBEL.out).at_ hlt
      generalize l[k] = c at x0 x1 x2 y0 y1 y2
      obtain ⟨kd, n, tx⟩ := c
      simp only at x0 x1 x2 y0 y1 y2
      go_wp2_with fail
      go_region
      go_wp2
      go_roundw
      case rel => exact ⟨k + 1, by omega, by go_num, HBEL.out.drew⟩
      case measure => simp [intOf]; omega
    · go_wp2
      go_ret
      exact ⟨rfl, HBEL.out⟩
end Go.Proofs.Ytkapfijokmajlaa

/- The document's own SameNodes, SameAct: true of two that read as the same. Condition: no slice is longer than memory. -/
namespace Go.Proofs.Ytkapfijokmajlaa
open Go.RowKit Go.Deep

set_option maxHeartbeats 2000000 in
set_option maxRecDepth 100000 in
theorem refSameNodes_alike (A B : Option Addr) (ca cb : Nat) (l : List NodeV) (hl : l.length ≤ maxLen) (w : World) (hA : NodesAt w A l) (hB : NodesAt w B l) :
    Calls Try.prog 27 #[.slice A l.length ca, .slice B l.length cb] w fun e w' => e = .returned (.bool true) ∧ Below w.heap.size w w' := by
  unfold maxLen at hl
  have HA := Lib.hid hA; clear hA
  have HB := Lib.hid hB; clear hB
  go_enter Try.func27, Try.ntmps27
  go_wp2
  go_loopw [5] (fun i wr => ∃ k : Nat, k ≤ l.length ∧ i = .int .i64 k ∧ Below w.heap.size w wr) (fun i _ => l.length - (intOf i).toNat)
  case atStart => exact ⟨0, Nat.zero_le _, rfl, Below.refl _ _⟩
  case round =>
    obtain ⟨k, hk, rfl, hbel⟩ := hrel
    have HBEL := Lib.hid hbel; clear hbel
    by_cases hlt : k < l.length
    · obtain ⟨b1, o1, rfl, _⟩ := HA.out.form (by omega)
      obtain ⟨b2, o2, rfl, _⟩ := HB.out.form (by omega)
      obtain ⟨x0, x1, x2, x3, x4⟩ := (HA.out.below HBEL.out).at_ hlt
      obtain ⟨y0, y1, y2, y3, y4⟩ := (HB.out.below HBEL.out).at_ hlt
      generalize l[k] = c at x0 x1 x2 x3 x4 y0 y1 y2 y3 y4
      obtain ⟨kd, n, tx, dr, ty⟩ := c
      simp only at x0 x1 x2 x3 x4 y0 y1 y2 y3 y4
      go_wp2_with fail
      go_region
      go_wp2
      go_roundw
      case rel => exact ⟨k + 1, by omega, by go_num, HBEL.out.drew⟩
      case measure => simp [intOf]; omega
    · go_wp2
      go_ret
      exact ⟨rfl, HBEL.out⟩
set_option maxHeartbeats 2000000 in
set_option maxRecDepth 100000 in
theorem refSameAct_alike (A B : Option Addr) (ca cb : Nat) (kd id pr : Int) (nm : List Nat) (dr : Bool) (l : List CompV) (hl : l.length ≤ maxLen) (w : World) (hA : CompsAt w A l) (hB : CompsAt w B l) :
    Calls Try.prog 62 #[.agg #[.int .i64 kd, .int .i64 id, .int .i64 pr, .string (bstr nm), .bool dr, .slice A l.length ca], .agg #[.int .i64 kd, .int .i64 id, .int .i64 pr, .string (bstr nm), .bool dr, .slice B l.length cb]] w fun e w' => e = .returned (.bool true) ∧ Below w.heap.size w w' := by
  have G := Lib.hid (fun w' (hb : Below w.heap.size w w') => refSame_alike A B ca cb l hl w' (hA.below hb) (hB.below hb))
  clear hA hB
  go_enter Try.func62, Try.ntmps62
  go_wp2_with fail
  refine (G.out _ (balloc (balloc (Below.refl _ _) _) _)).mono ?_
  rintro e w1 ⟨rfl, hb⟩
  have HB := Lib.hid (bstep (balloc (balloc (Below.refl _ _) _) _) hb)
  clear hb
  go_wp2
  go_ret
  exact ⟨rfl, HB.out⟩
end Go.Proofs.Ytkapfijokmajlaa

/- The document's own SameActs: true of two that read as the same. Condition: no slice is longer than memory. -/
namespace Go.Proofs.Ytkapfijokmajlaa
open Go.RowKit Go.Deep

def sacts : Sched Nat := (.quiet 0 (.quiet 1 (.quiet 2 (.quiet 3 (.quiet 4 (.quiet 5 (.quiet 6 (.quiet 7 (.one 8 (.quiet 9 .done))))))))))

set_option maxHeartbeats 2000000 in
set_option maxRecDepth 100000 in
theorem refSameActs_alike (A B : Option Addr) (ca cb : Nat) (l m : List ActV) (hl : l.length ≤ maxLen) (hg : ∀ y ∈ l, y.ops.length ≤ maxLen) (w : World) (hA : ActsAt w A l) (hB : ActsAt w B m) (hs : l.map strip = m.map strip) :
    Calls Try.prog 24 #[.slice A l.length ca, .slice B m.length cb] w fun e w' => e = .returned (.bool true) ∧ Below w.heap.size w w' := by
  unfold maxLen at hl
  have HA := Lib.hid hA; clear hA
  have HB := Lib.hid hB; clear hB
  have HG := Lib.hid hg; clear hg
  have hlm : m.length = l.length := by have := congrArg List.length hs; simpa using this.symm
  have HS := Lib.hid hs; clear hs
  have HLM := Lib.hid hlm; clear hlm
  rw [HLM.out]
  go_enter Try.func24, Try.ntmps24
  go_wp2
  go_loopw [5] (fun i wr => ∃ k : Nat, k ≤ l.length ∧ i = .int .i64 k ∧ Below w.heap.size w wr) (fun i _ => l.length - (intOf i).toNat)
  case atStart => exact ⟨0, Nat.zero_le _, rfl, Below.refl _ _⟩
  case round =>
    obtain ⟨k, hk, rfl, hbel⟩ := hrel
    have HBEL := Lib.hid hbel; clear hbel
    by_cases hlt : k < l.length
    · have hlt2 : k < m.length := by have := HLM.out; omega
      obtain ⟨b1, o1, rfl, _⟩ := HA.out.form (by omega)
      obtain ⟨b2, o2, rfl, _⟩ := HB.out.form (by omega)
      have hx := fun w' (hb : Below wr.drew.heap.size wr.drew w') => ((HA.out.below (HBEL.out.drew)).below hb).at_ hlt
      have hy := fun w' (hb : Below wr.drew.heap.size wr.drew w') => ((HB.out.below (HBEL.out.drew)).below hb).at_ hlt2
      have hc1 := (HA.out.below HBEL.out).2 l[k] (List.getElem_mem hlt)
      have hc2 := (HB.out.below HBEL.out).2 m[k] (List.getElem_mem hlt2)
      have hgo := HG.out l[k] (List.getElem_mem hlt)
      have hst : strip l[k] = strip m[k] := by
        have h1 : (l.map strip)[k]'(by simpa using hlt) = (m.map strip)[k]'(by simpa using hlt2) := by simp only [HS.out]
        simpa using h1
      generalize l[k] = c at hx hc1 hgo hst
      generalize m[k] = d at hy hc2 hst
      clear hlt2
      obtain ⟨kd, id, pr, nm, dr, A1, c1, os⟩ := c
      obtain ⟨kd', id', pr', nm', dr', A2, c2, os'⟩ := d
      simp only [strip] at hst
      injection hst with e1 e2 e3 e4 e5 _ _ e8
      subst e1 e2 e3 e4 e5 e8
      simp only at hx hy hc1 hc2 hgo
      have G := Lib.hid (refSameAct_alike A1 A2 c1 c2 kd id pr nm dr os hgo wr.drew hc1.drew hc2.drew)
      clear hc1 hc2
      have hx2 := fun e : ExtB none wr.drew => hx e.val e.property
      have hy2 := fun e : ExtB none wr.drew => hy e.val e.property
      have x0 := fun e => (hx2 e).1
      have x1 := fun e => (hx2 e).2.1
      have x2 := fun e => (hx2 e).2.2.1
      have x3 := fun e => (hx2 e).2.2.2.1
      have x4 := fun e => (hx2 e).2.2.2.2.1
      have x5 := fun e => (hx2 e).2.2.2.2.2
      have y0 := fun e => (hy2 e).1
      have y1 := fun e => (hy2 e).2.1
      have y2 := fun e => (hy2 e).2.2.1
      have y3 := fun e => (hy2 e).2.2.2.1
      have y4 := fun e => (hy2 e).2.2.2.2.1
      have y5 := fun e => (hy2 e).2.2.2.2.2
      clear hx hy hx2 hy2
      go_wp2_with fail
      refine Sched.wp_region_tree none sacts (by kernel_rfl) (by kernel_rfl) (fun _ _ d _ _ h => by cases d <;> exact h) ?_
      have HBD : Hid (Below w.heap.size w wr.drew) := HBEL.out.drew
      generalize wr.drew = wd at HBD G x0 x1 x2 x3 x4 x5 y0 y1 y2 y3 y4 y5 ⊢
      simp only [sacts, Sched.picked, List.getElem?_cons_succ, List.getElem?_cons_zero, Option.getD_some]
      repeat' (first | (refine Sched.walk_two ?_ ?_) | (refine Sched.walk_skip_quiet (by rfl) ?_; simp only [Act.put, List.setIfInBounds_toArray, List.set_cons_zero, List.set_cons_succ]) | (refine Sched.walk_skip_one (by rfl) ?_; simp only [Act.put, List.setIfInBounds_toArray, List.set_cons_zero, List.set_cons_succ]) | (refine Sched.walk_quiet (by rfl) (fun K hK => ?_); go_big_quiet_op; refine hK _ ?_; clear hK K) | (refine Sched.walk_one (by rfl) (fun K hK => ?_); go_simp; refine hK _ _ (Below.refl _ _) ?_; clear hK K))
      all_goals
        refine Sched.walk_one (by rfl) (fun K hK => ?_)
        go_simp
        refine G.out.mono ?_
        rintro e w2 ⟨rfl, hbv⟩
        have HBV := Lib.hid hbv; clear hbv
        refine hK _ _ HBV.out ?_
        clear hK K x0 x1 x2 x3 x4 x5 y0 y1 y2 y3 y4 y5
        repeat' (first | (refine Sched.walk_two ?_ ?_) | (refine Sched.walk_skip_quiet (by rfl) ?_; simp only [Act.put, List.setIfInBounds_toArray, List.set_cons_zero, List.set_cons_succ]) | (refine Sched.walk_skip_one (by rfl) ?_; simp only [Act.put, List.setIfInBounds_toArray, List.set_cons_zero, List.set_cons_succ]) | (refine Sched.walk_quiet (by rfl) (fun K hK => ?_); go_big_quiet_op; refine hK _ ?_; clear hK K) | (refine Sched.walk_one (by rfl) (fun K hK => ?_); go_simp; refine hK _ _ (Below.refl _ _) ?_; clear hK K))
        refine Sched.walk_done ?_
        go_wp2
        go_roundw
        case rel => exact ⟨k + 1, by omega, by go_num, bstep HBD.out HBV.out⟩
        case measure => simp [intOf]; omega
    · go_wp2
      go_ret
      exact ⟨rfl, HBEL.out⟩
end Go.Proofs.Ytkapfijokmajlaa
