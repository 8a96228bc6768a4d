/- What Do and Undo answer, as functions of what came in; the document's own and the landed ones both answer so. Conditions: no more than 2^30 bytes of text. (Merged of 7 texts.) -/
import Derived.Test.YtnadhpajelkngaaKOp
import Derived.Test.YtnadhpajelkngaaKUm
import Derived.Scope
import Derived.Test.YtnadhpajelkngaaKEdit
import Derived.Test.YtnadhpajelkngaaKUw
import Derived.Test.YtnadhpajelkngaaShelf
import Derived.Test.YtnadhpajelkngaaKCells
import Derived.Test.YtnadhpajelkngaaKBase
import Derived.Test.YtnadhpajelkngaaKRef
/- apply's width: how many bytes the first code points of a text have. Conditions: a text of no more than 2^40 bytes, that has as many code points. -/
namespace Go.Proofs.Ytnadhpajelkngaa
open Go.RowKit Go.Deep

theorem E_split (vs : List Nat) (k : Nat) : E vs = E (vs.take k) ++ E (vs.drop k) := by rw [← E_append, List.take_append_drop]
theorem E_drop (vs : List Nat) (k : Nat) : (E vs).drop (E (vs.take k)).length = E (vs.drop k) := by
  conv => lhs; rw [E_split vs k]
  exact List.drop_left' rfl
theorem lse_text {v : Nat} (h : May v) (r : List Nat) : lseStep (enc v ++ r) = (enc v).length := by rw [lseStep, st_enc h]
theorem E_take_len (vs : List Nat) (k : Nat) : (E (vs.take k)).length ≤ (E vs).length := by
  conv => rhs; rw [E_split vs k]
  rw [List.length_append]; omega

end Go.Proofs.Ytnadhpajelkngaa

/- A scope in which the run jumps ahead to labels, any number of them, and no way back: whoever jumps walks on from the label on. No condition. -/
namespace Go.Proofs.Ytnadhpajelkngaa

/-- As Q; by a goto to a label: what stands from that label on is walked, and jumps no more. -/
def fwd (P : Program) (c : Code) (Q : Exit → Act → World → Prop) : Exit → Act → World → Prop
  | .goto l, a, w => ∃ rest, findLabel c l = some rest ∧ rest.wp P (Exit.noGoto Q) a w
  | e, a, w => Q e a w

theorem fwd_ret {P : Program} {c : Code} {Q : Exit → Act → World → Prop} {a : Act} {w : World} : fwd P c Q .ret a w = Q .ret a w := rfl

theorem wp_scope_fwd {P : Program} {a : Act} {w : World} {Q : Exit → Act → World → Prop} {c : Code} (first : c.wp P (fwd P c Q) a w) : (Code.scope c).wp P Q a w := by
  intro b k cs
  obtain ⟨e, a₁, w₁, hq, harr⟩ := first b (.inScope c :: k) cs
  cases e with
  | normal => exact ⟨.normal, a₁, w₁, hq, .head step_scope (Steps.trans harr (.one step_inScope))⟩
  | exit id => exact ⟨.exit id, a₁, w₁, hq, fun k' hk => .head step_scope (harr k' (by simp [exitTo, hk]))⟩
  | goto l =>
    obtain ⟨rest, hf, hrest⟩ := hq
    have hg : gotoIn l (.inScope c :: k) = some (.code rest :: .inScope c :: k) := by simp [gotoIn, hf]
    obtain ⟨e₂, a₂, w₂, hq₂, harr₂⟩ := hrest b (.inScope c :: k) cs
    cases e₂ with
    | normal => exact ⟨.normal, a₂, w₂, hq₂, .of_steps (.head step_scope (harr _ hg)) (Steps.trans harr₂ (.one step_inScope))⟩
    | exit id => exact ⟨.exit id, a₂, w₂, hq₂, fun k' hk => Steps.trans (.head step_scope (harr _ hg)) (harr₂ k' (by simp [exitTo, hk]))⟩
    | goto l' => exact hq₂.elim
    | ret => exact ⟨_, a₂, w₂, hq₂, .of_steps (.head step_scope (harr _ hg)) harr₂⟩
    | panic ch => exact ⟨_, a₂, w₂, hq₂, .of_steps (.head step_scope (harr _ hg)) harr₂⟩
    | outgrown => exact ⟨_, a₂, w₂, hq₂, .of_steps (.head step_scope (harr _ hg)) harr₂⟩
  | ret => exact ⟨_, a₁, w₁, hq, .of_steps (.one step_scope) harr⟩
  | panic ch => exact ⟨_, a₁, w₁, hq, .of_steps (.one step_scope) harr⟩
  | outgrown => exact ⟨_, a₁, w₁, hq, .of_steps (.one step_scope) harr⟩
end Go.Proofs.Ytnadhpajelkngaa

/- apply's walk, over whatever is shown the parts: each with what it keeps or deletes of the text. Conditions: no more than 2^30 bytes of text; what is shown keeps the parts. -/
namespace Go.Proofs.Ytnadhpajelkngaa
open Go.RowKit Go.Deep

/-- What a part keeps or deletes of a text. -/
def thereOf (vs : List Nat) (l : List CompV) (i : Nat) : List Nat := (vs.drop (inS (l.take i))).take (inS (l.take (i + 1)) - inS (l.take i))
theorem inS_snoc (l : List CompV) (c : CompV) : inS (l ++ [c]) = inS l + inN c := by rw [inS_append, inS_cons, inS_nil]; omega
theorem inS_take_le (l : List CompV) (i : Nat) : inS (l.take i) ≤ inS l := by
  conv => rhs; rw [← List.take_append_drop i l, inS_append]
  omega
theorem Wh.n {c : CompV} (h : Wh c) : c.n = (inN c : Int) := by
  rcases h.cases with ⟨hk, hn, _⟩ | ⟨hk, hn, _⟩ | ⟨hk, hn, _⟩
  · rw [in_one hk]; omega
  · rw [in_three hk]; omega
  · rw [in_two hk]; omega

/-- What is told of a walk, and how far it has come. -/
def WalkEnd (Inv : Nat → World → Prop) (t : List Nat) (l : List CompV) (e : Ending) (w' : World) : Prop :=
  (rCheck l ≠ 0 ∧ e = .returned (.int .i64 (rCheck l : Int)) ∧ Inv 0 w') ∨
  (rCheck l = 0 ∧ (¬ ∃ vs, V t vs) ∧ e = .returned (.int .i64 2) ∧ Inv 0 w') ∨
  (rCheck l = 0 ∧ ∃ vs, V t vs ∧ (((vs.length : Int) ≠ rBase l ∧ e = .returned (.int .i64 11) ∧ Inv 0 w') ∨ ((vs.length : Int) = rBase l ∧ e = .returned (.int .i64 0) ∧ Inv l.length w')))

theorem part_row (w : World) (kd n : Int) (tx : List Nat) : (w.alloc (.cells #[.int .i64 kd, .int .i64 n, .string (bstr tx)] 54)).rowIs w.heap.size 54 3 (cmCells kd n tx) :=
  World.rowIs_alloc w #[.int .i64 kd, .int .i64 n, .string (bstr tx)] 54 (cmCells kd n tx) (fun i hi => by
    rcases (show i = 0 ∨ i = 1 ∨ i = 2 by simp at hi; omega) with rfl | rfl | rfl <;> rfl)

end Go.Proofs.Ytnadhpajelkngaa

/- strings.Builder, of the call's own: WriteString puts a text behind what it holds, String tells it. Condition: no more than 2^46 bytes. -/
namespace Go.Proofs.Ytnadhpajelkngaa
open Go.RowKit Go.Deep

theorem byte_info : (Try.prog.info? 5).map (fun i => (i.zero, i.size, i.bytes)) = some (some (.int .u8 0), 1, 1) := by kernel_rfl

end Go.Proofs.Ytnadhpajelkngaa

/- The landed Do: an edit of a text. Conditions: no more than 2^30 bytes of text. -/
namespace Go.Proofs.Ytnadhpajelkngaa
open Go.RowKit Go.Deep

/-- What is put behind the outcome for a part. -/
def doPiece (c : CompV) (there : List Nat) : List Nat := if c.kind = 1 then there else if c.kind = 2 then c.text else []
theorem there_eq {vs : List Nat} {l : List CompV} (hw : ∀ c ∈ l, Wh c) {i : Nat} (hi : i < l.length) : thereOf vs l i = (vs.take (sumT (l.take i) + l[i].n).toNat).drop (sumT (l.take i)).toNat := by
  have h1 : sumT (l.take i) = (inS (l.take i) : Int) := by rw [sumT, sumT_in _ _ fun c hc => hw c (List.mem_of_mem_take hc)]; omega
  have h2 := (hw _ (List.getElem_mem hi)).n
  rw [h1, h2, thereOf, List.take_succ_eq_append_getElem hi, inS_snoc, Int.toNat_natCast, show ((inS (l.take i) : Int) + (inN l[i] : Int)).toNat = inS (l.take i) + inN l[i] by omega, List.drop_take]
theorem doRun_step {vs : List Nat} {l : List CompV} (hw : ∀ c ∈ l, Wh c) {i : Nat} (hi : i < l.length) : (doRun vs (l.take (i + 1))).2 = (doRun vs (l.take i)).2 ++ doPiece l[i] (E (thereOf vs l i)) := by
  rw [there_eq hw hi, List.take_succ_eq_append_getElem hi, doRun_snoc, doStep, doRun_at, doPiece]
  split
  · rfl
  · split
    · rfl
    · simp

theorem piece_le (vs : List Nat) (l : List CompV) (i : Nat) : (E (thereOf vs l i)).length ≤ (E vs).length := by
  rw [thereOf]
  have h1 := E_take_len (vs.drop (inS (l.take i))) (inS (l.take (i + 1)) - inS (l.take i))
  have h2 := E_split vs (inS (l.take i))
  have h3 := congrArg List.length h2
  rw [List.length_append] at h3
  omega
end Go.Proofs.Ytnadhpajelkngaa

/- The landed Undo: what undoes an edit of a text. Conditions: no more than 2^30 bytes of text. -/
namespace Go.Proofs.Ytnadhpajelkngaa
open Go.RowKit Go.Deep

/-- What is put behind the undoing for a part. -/
def undoPiece (c : CompV) (there : List Nat) : CompV := if c.kind = 1 then c else if c.kind = 2 then ⟨3, (loose c.text : Int), []⟩ else ⟨2, 0, there⟩
theorem undoRun_step {vs : List Nat} {l : List CompV} (hw : ∀ c ∈ l, Wh c) {i : Nat} (hi : i < l.length) : (undoRun vs (l.take (i + 1))).2 = (undoRun vs (l.take i)).2 ++ [undoPiece l[i] (E (thereOf vs l i))] := by
  rw [there_eq hw hi, List.take_succ_eq_append_getElem hi, undoRun_snoc, undoStep, undoRun_at, undoPiece]
  split
  · rfl
  · split <;> rfl

/-- Block g holds a row of parts of the call's own. -/
def BackAt (g : Nat) (l : List CompV) (w : World) : Prop :=
  ∃ A c, w.rowIs g 22 1 (fun _ => .slice A l.length c) ∧ w.ownsRow g 54 3 (.slice A l.length c) l.length (l.flatMap compCells)
theorem BackAt.below {g : Nat} {l : List CompV} {w w' : World} (h : BackAt g l w) (hb : Below w.heap.size w w') : BackAt g l w' := by
  obtain ⟨A, c, h1, h2⟩ := h
  exact ⟨A, c, h1.of_block (hb.block g h1.lt), own_below h2 hb⟩
theorem BackAt.start (w : World) : BackAt w.heap.size [] (w.alloc (.cells #[.slice none 0 0] 22)) :=
  ⟨none, 0, World.rowIs_alloc w #[.slice none 0 0] 22 (fun _ => .slice none 0 0) (fun i hi => by simp at hi; subst hi; rfl), by simpa using World.ownsRow_nil _ _ _ _⟩
/-- One part more. -/
theorem BackAt.push {g : Nat} {l l' : List CompV} {A A' : Option Addr} {c c' : Nat} {w w' : World} (h1 : w.rowIs g 22 1 (fun _ => .slice A l.length c)) (h2 : w.ownsRow g 54 3 (.slice A l.length c) l.length (l.flatMap compCells))
    {X : Obj} (hg : (w.alloc X).grownBy w' (Value.slice A l.length c).ownBlock) (ho : w'.ownsRow g 54 3 (.slice A' l'.length c') l'.length (l'.flatMap compCells)) :
    w'.frozen? ⟨g, 0, none⟩ = false ∧ BackAt g l' (w'.setCell ⟨g, 0, none⟩ (.slice A' l'.length c')) ∧ Below g w (w'.setCell ⟨g, 0, none⟩ (.slice A' l'.length c')) ∧ (∃ v, w'.cell? ⟨g, 0, none⟩ = some v) := by
  have hlt := h1.lt
  have hr : w'.rowIs g 22 1 (fun _ => .slice A l.length c) := (h1.alloc X).of_block (hg.block g (by simp; omega) (fun e => by
    rcases h2.2 with ⟨h0, _⟩ | ⟨g2, cap2, cur2, h0, _, hh2, _⟩
    · rw [h0] at e; simp [Value.ownBlock] at e
    · rw [h0] at e; simp [Value.ownBlock] at e
      subst e
      obtain ⟨cc, hcc, _⟩ := h1
      rw [hh2] at hcc
      injection hcc with hcc
      injection hcc with _ hcc
      exact absurd hcc (by decide)))
  refine ⟨hr.frozen 0, ⟨A', c', (hr.set 0 _).congr fun i hi => by rw [if_pos (by omega)], ?_⟩, ((((Below.refl g w).alloc (by omega) X).grown hg (by simp; omega) (fun k hk => (h2.lt k hk).1)).setCell (Nat.le_refl _) _), ⟨_, hr.cell (i := 0) (by omega)⟩⟩
  exact own_only_type ho hr (by decide) ⟨rfl, rfl, rfl, by simp [World.setCell], fun k hk hkg => Below.heap_setCell _ _ _ _ (fun e => hkg (by simp [e]))⟩

end Go.Proofs.Ytnadhpajelkngaa

/- What Do and Undo answer, as functions of what came in; the document's own and the landed ones both answer so. Conditions: no more than 2^30 bytes of text. -/
namespace Go.Proofs.Ytnadhpajelkngaa
open Go.RowKit Go.Deep
open Classical in
/-- Undo's edit. -/
noncomputable def uOut (t : List Nat) (l : List CompV) : List CompV := if dErr t l = 0 then rNormal (undoRun (cps t) l).2 else []

/-- What is told of Undo. -/
def UEnd (t : List Nat) (l : List CompV) (w : World) (e : Ending) (w' : World) : Prop :=
  ∃ A c, e = .returned (.tuple #[.slice A (uOut t l).length c, .int .i64 (dErr t l : Int)]) ∧ w'.ownsRow w.heap.size 54 3 (.slice A (uOut t l).length c) (uOut t l).length ((uOut t l).flatMap compCells)
theorem own_nil (w w' : World) : w'.ownsRow w.heap.size 54 3 (.slice none ([] : List CompV).length 0) ([] : List CompV).length (([] : List CompV).flatMap compCells) := World.ownsRow_nil _ _ _ _
theorem UndoEnd.fn {t : List Nat} {l : List CompV} {w w' : World} {e : Ending} (h : UndoEnd t l w e w') : UEnd t l w e w' := by
  rcases h with ⟨hz, rfl⟩ | ⟨hz, hv, rfl⟩ | ⟨hz, vs, hv, ⟨hne, rfl⟩ | ⟨heq, A, c, rfl, ho⟩⟩
  · rw [UEnd, uOut, dErr_check hz, if_neg hz]; exact ⟨none, 0, rfl, own_nil w w'⟩
  · rw [UEnd, uOut, dErr_bad hz hv, if_neg (by decide)]; exact ⟨none, 0, rfl, own_nil w w'⟩
  · rw [UEnd, uOut, dErr_text hz hv hne, if_neg (by decide)]; exact ⟨none, 0, rfl, own_nil w w'⟩
  · rw [UEnd, uOut, dErr_ok hz hv heq, if_pos rfl, cps_of hv]; exact ⟨A, c, rfl, ho⟩
theorem rNormal_nil : rNormal [] = [] := by rfl
end Go.Proofs.Ytnadhpajelkngaa
