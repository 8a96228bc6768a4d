/- What acts did to whom, told group by group of their IDs. No condition. (Merged of 4 texts.) -/
import Derived.Test.YtnadhpajelkngaaKCells
import Derived.Deep.DeepAppendWide
import Derived.Laws.OwnMore
import Derived.Deep.AppendLies
import Derived.Test.YtnadhpajelkngaaKBase
import Derived.Laws.IdiomStrings
import Derived.Laws.Cover3
import Derived.Test.YtnadhpajelkngaaKStw
import Derived.Test.YtnadhpajelkngaaKOne
/- Rows of acts of the call's own: append. Condition: no more than 2^40 of them. -/
namespace Go.Proofs.Ytnadhpajelkngaa
open Go.RowKit Go.Deep

def ActRow (w : World) (A : Option Addr) (l : List ActV) : Prop := CellsAt w A (l.flatMap actCells)
theorem ActRow.below {w w' : World} {A : Option Addr} {l : List ActV} (h : ActRow w A l) (hb : Below w.heap.size w w') : ActRow w' A l := CellsAt.below h hb
theorem ActRow.form {w : World} {A : Option Addr} {l : List ActV} (h : ActRow w A l) (h0 : 0 < l.length) : ∃ b off, A = some ⟨b, off, none⟩ ∧ b < w.heap.size :=
  CellsAt.form h (by intro e; have h1 := flat_length actCells 6 actCells_length l; rw [e, List.length_nil] at h1; omega)
theorem actn_inf : (Try.prog.info? 31).map (fun i => (i.zero, i.size, i.bytes)) = some (some (.agg #[.int .i64 0, .int .i64 0, .int .i64 0, .string { data := #[] }, .bool false, .slice none 0 0]), 6, 72) := by kernel_rfl
/-- A row of nodes of the call's own, in blocks from B on. -/
def OwnA (w : World) (B : Nat) (A : Option Addr) (c : Nat) (l : List ActV) : Prop := w.ownsRow B 31 6 (.slice A l.length c) l.length (l.flatMap actCells)
theorem actn_one (l : List ActV) : ∀ u ∈ l.flatMap actCells, u.oneCell' = true := by
  intro u hu
  obtain ⟨y, _, hy⟩ := List.mem_flatMap.1 hu
  simp [actCells] at hy
  rcases hy with rfl | rfl | rfl | rfl | rfl | rfl <;> rfl
theorem OwnA.at_ {w : World} {B c : Nat} {A : Option Addr} {l : List ActV} (h : OwnA w B A c l) : ActRow w A l := CellsAt.of_own h
theorem OwnA.cap {w : World} {B c : Nat} {A : Option Addr} {l : List ActV} (h : OwnA w B A c l) : l.length ≤ c := by
  rcases h.2 with ⟨e, h0⟩ | ⟨g, cap, cur, e, _, _, hn, _⟩
  · omega
  · injection e with _ _ e
    omega
theorem OwnA.empty (w : World) {B : Nat} (h : B ≤ w.heap.size) : OwnA (w.alloc (.cells #[] 31)) B (some ⟨w.heap.size, 0, none⟩) 0 [] := World.ownsRow_lit w #[] 0 h (by simp [maxLen]) rfl
theorem OwnA.nil (w : World) (B : Nat) : OwnA w B none 0 [] := World.ownsRow_nil _ _ _ _
theorem OwnA.alloc {w : World} {B c : Nat} {A : Option Addr} {l : List ActV} (h : OwnA w B A c l) (o : Obj) : OwnA (w.alloc o) B A c l := World.ownsRow.alloc h o
theorem OwnA.below {w w' : World} {B c : Nat} {A : Option Addr} {l : List ActV} (h : OwnA w B A c l) (hb : Below w.heap.size w w') : OwnA w' B A c l := own_below h hb
theorem OwnA.drew {w : World} {B c : Nat} {A : Option Addr} {l : List ActV} (h : OwnA w B A c l) : OwnA w.drew B A c l := h

theorem append_none_act {w : World} (base : Nat) (t ty e : TypeId) (i : TypeInfo) (size : Nat) (ht : Try.prog.underlying t = some (.slice e)) (hi : Try.prog.info? e = some i) (v : Value) (n : Nat) (xs : List Value) (c : Nat) (hown : w.ownsRow base e size v n xs) :
    (Builtin.append_ #[t, t] ty #[v, .slice none 0 c]).run Try.prog w = .ok v w := by
  rcases hown.2 with ⟨rfl, rfl⟩ | ⟨g, cap, cur, rfl, _, _, hnc, _⟩
  · simp [Builtin.append_, run_underlying ht, sizeOf, typeInfo, hi, Builtin.lenOf, Builtin.firstCells]
  · simp [Builtin.append_, run_underlying ht, sizeOf, typeInfo, hi, Builtin.lenOf, Builtin.firstCells, hnc, storeCells]
set_option maxRecDepth 100000 in
theorem run_acts_lies {w : World} {B c0 : Nat} {A0 : Option Addr} {out : List ActV} (hown : OwnA w B A0 c0 out) (hB : B ≤ w.heap.size) {A : Option Addr} {m : List ActV} (c : Nat) (hA : ActRow w A m) (hlen : out.length + m.length ≤ 1099511627776) (ty : TypeId) :
    ∃ A' c' w', (Builtin.append_ #[32, 32] ty #[.slice A0 out.length c0, .slice A m.length c]).run Try.prog w = .ok (.slice A' (out ++ m).length c') w' ∧ OwnA w' B A' c' (out ++ m) ∧ Below B w w' ∧ ∀ (g : Nat) (l : List ActV), g < w.heap.size → (∀ b, A0 = some b → b.block ≠ g) → ActRow w (some ⟨g, 0, none⟩) l → ActRow w' (some ⟨g, 0, none⟩) l := by
  obtain ⟨i0, hi0, hz0, hz1, hz2⟩ := info_parts actn_inf
  cases A with
  | none =>
    have hm : m = [] := by
      cases m with
      | nil => rfl
      | cons y m =>
        obtain ⟨b, off, e, _⟩ := hA.form (by simp)
        cases e
    subst hm
    refine ⟨A0, c0, w, ?_, ?_, Below.refl _ _, fun _ _ _ _ h => h⟩
    · rw [List.append_nil]
      exact append_none_act B _ ty _ i0 6 Try.underlying32 hi0 _ _ _ c hown
    · rw [List.append_nil]
      exact hown
  | some ad =>
    obtain ⟨v', w', hr, h2, h3, _⟩ := run_append_own_wide (P := Try.prog) w B 32 ty 31 i0 (.agg #[.int .i64 0, .int .i64 0, .int .i64 0, .string { data := #[] }, .bool false, .slice none 0 0]) 6 72 Try.underlying32 hi0 hz0 hz1 hz2 rfl (by omega)
      _ out.length (out.flatMap actCells) hown ad m.length c (m.flatMap actCells) (flat_length actCells 6 actCells_length m) (fun j u hu => by
        rcases hA with h0 | ⟨b, off, e, _, hc⟩
        · rw [h0] at hu; cases hu
        · injection e with e
          subst e
          rw [Go.WideShapes.add_plain]
          exact hc j u hu) (actn_one m) (by simp only [maxLen]; omega) (by omega) hB
    have e : out.flatMap actCells ++ m.flatMap actCells = (out ++ m).flatMap actCells := List.flatMap_append.symm
    rw [e, ← List.length_append] at h2
    obtain ⟨A', c', rfl⟩ := own_slice h2
    refine ⟨A', c', w', hr, h2, (Below.refl B w).grown h3 hB (fun k hk => (hown.lt k hk).1), fun g l hg hne h => ?_⟩
    rcases h with h | ⟨b, off, e, hlt, hc⟩
    · exact .inl h
    · injection e with e
      injection e with e1 e2
      subst e1 e2
      refine .inr ⟨g, 0, rfl, Nat.lt_of_lt_of_le hlt h3.size, fun j v hj => (h3.cell_far ⟨g, 0 + j, none⟩ hlt ?_).trans (hc j v hj)⟩
      cases A0 with
      | none => intro e; cases e
      | some a =>
        intro e
        injection e with e
        exact hne a rfl e.symm
theorem run_acts_app {w : World} {B c0 : Nat} {A0 : Option Addr} {out : List ActV} (hown : OwnA w B A0 c0 out) (hB : B ≤ w.heap.size) {A : Option Addr} {m : List ActV} (c : Nat) (hA : ActRow w A m) (hlen : out.length + m.length ≤ 1099511627776) (ty : TypeId) :
    ∃ A' c' w', (Builtin.append_ #[32, 32] ty #[.slice A0 out.length c0, .slice A m.length c]).run Try.prog w = .ok (.slice A' (out ++ m).length c') w' ∧ OwnA w' B A' c' (out ++ m) ∧ Below B w w' := by
  obtain ⟨A', c', w', h1, h2, h3, _⟩ := run_acts_lies hown hB c hA hlen ty
  exact ⟨A', c', w', h1, h2, h3⟩
theorem wp_acts_app {w : World} {o : Oper} {a : Act} {K : Act → World → Prop} {Q : Exit → Act → World → Prop} (s x : Operand)
    (ho : o.op = .call { callee := .builtin .append, args := #[s, x], argTypes := #[32, 32] })
    {B c0 : Nat} {A0 : Option Addr} {out : List ActV} (hown : OwnA w B A0 c0 out) (hB : B ≤ w.heap.size) {A : Option Addr} {m : List ActV} (c : Nat) (hA : ActRow w A m) (hlen : out.length + m.length ≤ 1099511627776)
    (hs : a.eval s = .slice A0 out.length c0) (hx : a.eval x = .slice A m.length c)
    (hK : ∀ A' c' w', OwnA w' B A' c' (out ++ m) → Below B w w' → K (a.put o.dst (.slice A' (out ++ m).length c')) w') : o.wp Try.prog a w K Q := by
  obtain ⟨A', c', w', hrun, h1, h2⟩ := run_acts_app hown hB c hA hlen o.type
  unfold Oper.wp execOp
  simp only [ho, resolve, invoke, builtin, Sem.run_bind, Sem.run_pure, Result.andThen_ok, List.map_toArray, List.map_cons, List.map_nil, hs, hx, hrun]
  exact hK A' c' w' h1 h2
theorem wp_acts_lies {w : World} {o : Oper} {a : Act} {K : Act → World → Prop} {Q : Exit → Act → World → Prop} (s x : Operand)
    (ho : o.op = .call { callee := .builtin .append, args := #[s, x], argTypes := #[32, 32] })
    {B c0 : Nat} {A0 : Option Addr} {out : List ActV} (hown : OwnA w B A0 c0 out) (hB : B ≤ w.heap.size) {A : Option Addr} {m : List ActV} (c : Nat) (hA : ActRow w A m) (hlen : out.length + m.length ≤ 1099511627776)
    (hs : a.eval s = .slice A0 out.length c0) (hx : a.eval x = .slice A m.length c)
    (hK : ∀ A' c' w', OwnA w' B A' c' (out ++ m) → Below B w w' → (∀ (g : Nat) (l : List ActV), g < w.heap.size → (∀ b, A0 = some b → b.block ≠ g) → ActRow w (some ⟨g, 0, none⟩) l → ActRow w' (some ⟨g, 0, none⟩) l) → K (a.put o.dst (.slice A' (out ++ m).length c')) w') : o.wp Try.prog a w K Q := by
  obtain ⟨A', c', w', hrun, h1, h2, h3⟩ := run_acts_lies hown hB c hA hlen o.type
  unfold Oper.wp execOp
  simp only [ho, resolve, invoke, builtin, Sem.run_bind, Sem.run_pure, Result.andThen_ok, List.map_toArray, List.map_cons, List.map_nil, hs, hx, hrun]
  exact hK A' c' w' h1 h2 h3
theorem wpList_acts_app {w : World} {ops : Array Oper} {rest : List Oper} {o : Oper} {a : Act} {Q : Exit → Act → World → Prop} (hgd : o.guard = none) (s x : Operand)
    (ho : o.op = .call { callee := .builtin .append, args := #[s, x], argTypes := #[32, 32] })
    {B c0 : Nat} {A0 : Option Addr} {out : List ActV} (hown : OwnA w B A0 c0 out) (hB : B ≤ w.heap.size) {A : Option Addr} {m : List ActV} (c : Nat) (hA : ActRow w A m) (hlen : out.length + m.length ≤ 1099511627776)
    (hs : a.eval s = .slice A0 out.length c0) (hx : a.eval x = .slice A m.length c)
    (h : ∀ A' c' w', OwnA w' B A' c' (out ++ m) → Below B w w' → wpList Try.prog ops Q rest (a.put o.dst (.slice A' (out ++ m).length c')) w') : wpList Try.prog ops Q (o :: rest) a w :=
  wpList_plain hgd fun _ hK => wp_acts_app s x ho hown hB c hA hlen hs hx fun A' c' w' h1 h2 => hK _ _ (h A' c' w' h1 h2)

/-- A node that was just laid. -/
theorem actn_lit (x : World) (n : ActV) (g : Nat) (hg : g = x.heap.size) : ActRow (x.alloc (.cells (actCells n).toArray 31)) (some ⟨g, 0, none⟩) [n] := by
  subst hg
  refine .inr ⟨_, 0, rfl, by simp, fun j v hj => ?_⟩
  rw [cell_of_row _ _ _ _ _ _ (heap_alloc_new x _)]
  simpa using hj
end Go.Proofs.Ytnadhpajelkngaa

/- []byte(s): the same bytes, in new memory. No condition. -/
namespace Go.Proofs.Ytnadhpajelkngaa
open Go.RowKit Go.Deep

theorem eql_bytes_nil (A : Option Addr) (n c : Nat) (w : World) : (binOp .eql 93 (.slice A n c) (.slice none 0 0)).run Try.prog w = .ok (.bool A.isNone) w := by
  simp only [binOp]
  simp [run_equal_slice_nil w 93 5 A n c Try.underlying93]
theorem conv_str_cap (l : List Nat) (hb : ∀ x ∈ l, x < 256) (w : World) : ∃ cap w', (convert 9 93 (.string (bstr l))).run Try.prog w = .ok (.slice (some ⟨w.heap.size, 0, none⟩) l.length cap) w' ∧
    BytesAt w' (some ⟨w.heap.size, 0, none⟩) l ∧ Below w.heap.size w w' ∧ l.length ≤ cap := by
  have h := run_bytes_of_string (P := Try.prog) w 9 93 5 (bstr l) Try.underlying9 Try.underlying93 Try.underlying5
  rw [bstr_size] at h
  refine ⟨_, _, h, ?_, ?_, grownCap_ge _ _ _ _⟩
  · refine BytesAt.lit (w := w.drew) (fun j x hj => ?_) rfl
    have hjl : j < l.length := (List.getElem?_eq_some_iff.1 hj).1
    have hx := hb x (List.mem_of_getElem? hj)
    have h1 : (bstr l).data[j]? = some (UInt8.ofNat x) := by
      rw [← Array.getElem?_toList, bstr_data, List.getElem?_map, hj]; rfl
    obtain ⟨hd, h2⟩ := Array.getElem?_eq_some_iff.1 h1
    rw [bytesRow_at _ _ j hd, h2]
    simp
    omega
  · exact ((Below.refl _ _).drew).alloc (Nat.le_refl _) _
theorem conv_str (l : List Nat) (hb : ∀ x ∈ l, x < 256) (w : World) : ∃ cap w', (convert 9 93 (.string (bstr l))).run Try.prog w = .ok (.slice (some ⟨w.heap.size, 0, none⟩) l.length cap) w' ∧
    BytesAt w' (some ⟨w.heap.size, 0, none⟩) l ∧ Below w.heap.size w w' := by
  obtain ⟨cap, w', h1, h2, h3, _⟩ := conv_str_cap l hb w
  exact ⟨cap, w', h1, h2, h3⟩
end Go.Proofs.Ytnadhpajelkngaa

/- The landed effect's byID: the acts by rising ID, those of one ID in their order, in new memory. Condition: at most 2^20 acts. -/
namespace Go.Proofs.Ytnadhpajelkngaa
open Go.RowKit Go.Deep
open Go.Sort (SortedIn PermIn grow putRow mapBlock grow_grow alloc_eq_grow putRowK HoldsK size_flatK get_flatK)

def keyA (a : ActV) : Int := a.id
def encA (x : ActV × Nat) : List Value := actCells x.1
theorem encA_length (x : ActV × Nat) : (encA x).length = 6 := rfl
theorem cmpInt_cf (x y : ActV × Nat) : Lib.compareInt x.1.id y.1.id = cf keyA x y := by
  unfold Lib.compareInt cf keyA
  rfl
set_option maxRecDepth 100000 in
theorem byCmp_any (x y : ActV × Nat) (W : World) : Calls Try.prog 48 #[.agg (encA x).toArray, .agg (encA y).toArray] W fun e w' => e = .returned (.int .i64 (cf keyA x y)) ∧ ∃ q os', w' = grow (W.drewN q) os' := by
  have hcon := Lib.hid (fun W' => Try.cmp_Compare_int x.1.id y.1.id W')
  rw [cmpInt_cf] at hcon
  generalize cf keyA x y = r at hcon
  unfold encA actCells
  go_enter Try.func48, Try.ntmps48
  go_wp2_with fail
  refine (hcon.out _).mono ?_
  rintro e w' ⟨rfl, rfl⟩
  go_wp2
  go_ret
  exact ⟨rfl, 0, _, by rw [alloc_eq_grow, alloc_eq_grow, grow_grow]; rfl⟩
set_option maxRecDepth 100000 in
theorem insNone_any (p : Option Addr) (c : Nat) (fv : Value) (w : World) :
    Calls Try.prog 68 #[.slice p 0 c, .int .i64 0, .int .i64 0, fv] w fun e w' => e = .returned (.tuple #[]) ∧ w' = w := by
  go_enter Try.func68, Try.ntmps68
  go_wp2
  refine wp_loop_rounds 1 ?_
  rw [rounds_succ]
  go_wp2
  go_end0
  exact ⟨rfl, rfl⟩
set_option maxRecDepth 100000 in
theorem stbNone_any (p : Option Addr) (c : Nat) (fv : Value) (w : World) :
    Calls Try.prog 58 #[.slice p 0 c, .int .i64 0, fv] w fun e w' => e = .returned (.tuple #[]) ∧ w' = w := by
  have e68 : ∀ args w, (callFunc 68 args).run Try.prog w = .ok (.enter 68 args) w := enters_of Try.func68 (by kernel_rfl) rfl
  go_enter Try.func58, Try.ntmps58
  go_wp2
  refine wp_loop_rounds 1 ?_
  rw [rounds_succ]
  go_wp2_with fail
  refine (insNone_any p c fv _).mono ?_
  rintro e w' ⟨rfl, rfl⟩
  go_wp2
  refine wp_loop_rounds 1 ?_
  rw [rounds_succ]
  go_wp2
  (try simp only [Exit.inBlock, Exit.then])
  refine bodyPost_end (v := .tuple #[]) ?_ ?_ ?_
  case refine_1 => exact results_none rfl _ _ _
  case refine_2 => rfl
  exact ⟨rfl, rfl⟩
/-- Acts by rising ID, those of one ID in their order. -/
structure Ranged (l m : List ActV) : Prop where
  len : m.length = l.length
  perm : m.Perm l
  rise : m.Pairwise fun x y => x.id ≤ y.id
  same : ∀ i : Int, m.filter (fun x => decide (x.id = i)) = l.filter (fun x => decide (x.id = i))
theorem ranged_nil : Ranged [] [] := ⟨rfl, List.Perm.refl _, List.Pairwise.nil, fun _ => rfl⟩

theorem below_sortK {B : Nat} (w : World) (blk off n : Nat) (d : Array (ActV × Nat)) (os : Array Obj) (hB : B ≤ blk) (hw : B ≤ w.heap.size) : Below B w (sortWorldK encA 6 w blk off n d os) := by
  unfold sortWorldK putRowK putRow mapBlock grow Go.Sort.ahead
  refine ⟨rfl, rfl, rfl, by simp, fun k hk => ?_⟩
  show ((w.heap.modify blk _) ++ os)[k]? = w.heap[k]?
  rw [Array.getElem?_append_left (by simp; omega), Array.getElem?_modify, if_neg (by omega)]
theorem holds_acts {w : World} {g : Nat} {d : Array (ActV × Nat)} (hg : g < w.heap.size) (h : HoldsK encA 6 w g 0 d) : ActRow w (some ⟨g, 0, none⟩) (d.toList.map (·.1)) := by
  refine .inr ⟨g, 0, rfl, hg, fun j v hj => ?_⟩
  obtain ⟨i, f, hi, hf, rfl, hv⟩ := flat_lt actCells_length (by omega) hj
  have hi' : i < d.size := by simpa using hi
  have := (h.cell hi' hf).1
  rw [Nat.zero_add] at this
  rw [Nat.zero_add, this]
  rw [Array.getElem!_eq_getD, Array.getD, dif_pos hi']
  have e : (d.toList.map (·.1))[i] = d[i].1 := by simp
  rw [e] at hv
  show some ((actCells d[i].1)[f]!) = some v
  rw [List.getElem!_eq_getElem?_getD, hv]
  rfl
theorem own_holdsA {w : World} {B c : Nat} {A : Option Addr} {l : List ActV} (ho : OwnA w B A c l) (h0 : l ≠ []) : ∃ g, A = some ⟨g, 0, none⟩ ∧ B ≤ g ∧ g < w.heap.size ∧ HoldsK encA 6 w g 0 l.zipIdx.toArray := by
  have hcells := ho.at_
  rcases ho.2 with ⟨_, h2⟩ | ⟨g, cap, cur, hv, hBg, hh, h3, h4, h5⟩
  · exact absurd (List.length_eq_zero_iff.1 h2) h0
  · injection hv with hv1 hv2 hv3
    subst hv1
    have hlt : g < w.heap.size := by
      rcases Nat.lt_or_ge g w.heap.size with h | h
      · exact h
      · rw [Array.getElem?_eq_none h] at hh; cases hh
    have hrow : w.rowIs g 31 cur.size (fun i => cur.getD i undef) := ⟨cur, hh, rfl, fun i hi => by simp [hi]⟩
    refine ⟨g, rfl, hBg, hlt, fun j hj => ?_⟩
    rw [size_flatK] at hj
    have hj' : j < l.length * 6 := by simpa using hj
    have hi : j / 6 < l.length := by omega
    have hf : j % 6 < 6 := Nat.mod_lt _ (by omega)
    have hjj : j / 6 * 6 + j % 6 = j := by omega
    refine ⟨?_, hrow.frozen _⟩
    rw [get_flatK _ _ _ _ hj]
    have e1 : (l.zipIdx.toArray[j / 6]!).1 = l[j / 6] := by simp [hi]
    have hl5 : j % 6 < (actCells l[j / 6]).length := by rw [actCells_length]; exact hf
    unfold encA
    rw [e1]
    refine (CellsAt.cell hcells (j := j) ?_)
    have hfg := flat_get actCells 6 actCells_length l (j / 6) hi (j % 6) hf
    rw [hjj] at hfg
    rw [hfg, List.getElem?_eq_getElem hl5]
    show some _ = some (id _)
    rw [id, List.getElem!_eq_getElem?_getD, List.getElem?_eq_getElem hl5]
    rfl
set_option maxRecDepth 100000 in
theorem stableActs_any {B : Nat} (A : Option Addr) (c : Nat) (l : List ActV) (hl : l.length ≤ 1048576) (w : World) (hB : B ≤ w.heap.size) (ho : OwnA w B A c l) :
    Calls Try.prog 47 #[.slice A l.length c, .func (.func 48) #[] #[]] w fun e w' => e = .returned (.tuple #[]) ∧ ∃ m, Ranged l m ∧ ActRow w' A m ∧ Below B w w' := by
  have hcon : Calls Try.prog 58 #[.slice A l.length c, .int .i64 (l.length : Int), .func (.func 48) #[] #[]] w fun e w' => e = .returned (.tuple #[]) ∧ ∃ m, Ranged l m ∧ ActRow w' A m ∧ Below B w w' := by
    by_cases h0 : l = []
    · subst h0
      exact (stbNone_any A c _ w).mono fun e w' ⟨h1, h2⟩ => ⟨h1, [], ranged_nil, .inl rfl, by rw [h2]; exact Below.refl _ _⟩
    · obtain ⟨g, rfl, hBg, hg, hH⟩ := own_holdsA ho h0
      have eg : ∀ args w, (callFunc 48 args).run Try.prog w = .ok (.enter 48 args) w := enters_of Try.func48 (by kernel_rfl) rfl
      have hz : l.zipIdx.toArray.size = l.length := by simp
      have R : RowK encA 6 w g 0 l.zipIdx.toArray := ⟨encA_length, fun x v hv => actn_one [x.1] v (by simpa [encA] using hv), hH, hg⟩
      have h1 := stbWhole_any keyA R 48 #[] c l.length hz (fun p hp => by simp [hp]) eg (fun m os dk _ x y => byCmp_any x y _) (by omega)
      refine h1.mono ?_
      rintro e w' ⟨he, d', hS, hp, hs⟩
      obtain ⟨m, hm, hlen, hperm, hrise, hsame⟩ := stb_told (key := keyA) rfl hp hs
      refine ⟨he, m, ⟨hlen, hperm, hrise, hsame⟩, ?_, ?_⟩
      · rw [hm]
        exact holds_acts (hS.lt hg) (hS.holds hg hH (by rw [hp.1]))
      · obtain ⟨n, os, rfl⟩ := hS
        exact below_sortK w g 0 n d' os hBg hB
  have HC := Lib.hid hcon
  clear hcon
  go_enter Try.func47, Try.ntmps47
  go_wp2_with fail
  refine (HC.out).mono ?_
  rintro e w' ⟨rfl, h⟩
  have H := Lib.hid h
  clear h
  go_wp2
  go_end0
  exact ⟨rfl, H.out⟩
theorem eql_acts_nil (A : Option Addr) (n c : Nat) (w : World) : (binOp .eql 32 (.slice A n c) (.slice none 0 0)).run Try.prog w = .ok (.bool A.isNone) w := by
  simp only [binOp]
  simp [run_equal_slice_nil w 32 31 A n c Try.underlying32]
set_option maxRecDepth 100000 in
theorem slActs_any (A : Option Addr) (l : List ActV) (c : Nat) (hl : l.length ≤ 1048576) (w : World) (h : ActRow w A l) :
    Calls Try.prog 46 #[.slice A l.length c] w fun e w' => (∃ A' c', e = .returned (.slice A' l.length c') ∧ OwnA w' w.heap.size A' c' l) ∧ Below w.heap.size w w' := by
  have H := Lib.hid h; clear h
  have hq := fun (A : Option Addr) (n : Nat) (w : World) => eql_acts_nil A n c w
  cases A with
  | none =>
    have e : l = [] := by
      cases l with
      | nil => rfl
      | cons y l =>
        obtain ⟨b, off, e, _⟩ := H.out.form (by simp)
        cases e
    subst e
    go_enter Try.func46, Try.ntmps46
    go_wp2
    go_ret
    exact ⟨⟨none, 0, rfl, OwnA.nil _ _⟩, Below.refl _ _⟩
  | some a =>
    go_enter Try.func46, Try.ntmps46
    go_wp2_with (at_builtin
                 refine wpList_acts_app rfl (.tmp 5) (.tmp 6) rfl (B := w.heap.size) (out := []) (m := l) (OwnA.empty w (Nat.le_refl _)) (by simp) c (H.out.below ((Below.refl _ _).alloc (Nat.le_refl _) _)) (by simp; omega) rfl rfl ?_
                 intro A1 c1 w1 hown hbel
                 have HO1 := Lib.hid hown
                 have HB1 := Lib.hid (((Below.refl w.heap.size w).alloc (Nat.le_refl _) (Obj.cells #[] 31)).trans hbel)
                 clear hown hbel)
    go_ret
    have h1 := HO1.out
    rw [List.nil_append] at h1
    exact ⟨⟨A1, c1, rfl, h1⟩, HB1.out⟩
set_option maxRecDepth 100000 in
theorem effByID_any (A : Option Addr) (c : Nat) (l : List ActV) (hl : l.length ≤ 1048576) (w : World) (hA : ActsAt w A l) :
    Calls Try.prog 29 #[.slice A l.length c] w fun e w' => (∃ A' c' m, e = .returned (.slice A' (List.length m) c') ∧ Ranged l m ∧ ActRow w' A' m ∧ m.length ≤ c' ∧ ∀ b off q, A' = some ⟨b, off, q⟩ → w.heap.size ≤ b ∧ b < w'.heap.size) ∧ Below w.heap.size w w' := by
  have GC := Lib.hid (slActs_any A l c hl w hA.1)
  have GS := Lib.hid (fun (A1 : Option Addr) (c1 : Nat) (w1 : World) (hB : w.heap.size ≤ w1.heap.size) (ho : OwnA w1 w.heap.size A1 c1 l) => stableActs_any A1 c1 l hl w1 hB ho)
  clear hA
  go_enter Try.func29, Try.ntmps29
  go_wp2_with fail
  refine (GC.out).mono ?_
  rintro e w1 ⟨⟨A1, c1, rfl, hown⟩, hb1⟩
  have HCAP := Lib.hid hown.cap
  have HFAR : Hid (∀ b off q, A1 = some ⟨b, off, q⟩ → w.heap.size ≤ b ∧ b < w1.heap.size) := Lib.hid (by
    rintro b off q rfl
    rcases hown.2 with ⟨h1, _⟩ | ⟨g, cap, cur, h1, h2, h3, _⟩
    · injection h1 with h1
      cases h1
    · injection h1 with h1
      injection h1 with h1
      injection h1 with h1
      rw [h1]
      refine ⟨h2, ?_⟩
      rcases Nat.lt_or_ge g w1.heap.size with h | h
      · exact h
      · rw [Array.getElem?_eq_none h] at h3; cases h3)
  have GSS := Lib.hid (GS.out A1 c1 w1 hb1.size hown)
  have HB1 := Lib.hid hb1
  clear hown hb1
  go_wp2_with fail
  refine (GSS.out).mono ?_
  rintro e w2 ⟨rfl, m, hm, hat, hb2⟩
  have HM := Lib.hid hm
  have HAT := Lib.hid hat
  have HB2 := Lib.hid (HB1.out.trans hb2)
  have HSZ := Lib.hid hb2.size
  clear hm hat hb2
  obtain ⟨n, hn⟩ : ∃ n, l.length = n := ⟨_, rfl⟩
  rw [hn] at HCAP ⊢
  go_wp2
  go_ret
  refine ⟨⟨A1, c1, m, by rw [HM.out.len, hn]; rfl, HM.out, HAT.out, by rw [HM.out.len, hn]; exact HCAP.out, fun b off q e => ⟨(HFAR.out b off q e).1, Nat.lt_of_lt_of_le (HFAR.out b off q e).2 HSZ.out⟩⟩, HB2.out⟩
end Go.Proofs.Ytnadhpajelkngaa

/- What acts did to whom, told group by group of their IDs. No condition. -/
namespace Go.Proofs.Ytnadhpajelkngaa

theorem effStep_other {x : OneK} {a : ActV} (h : a.id ≠ x.id) : effStep x a = x := by
  unfold effStep
  rw [if_pos h]
theorem effFold_skip : ∀ (r : List ActV) (x : OneK), (∀ a ∈ r, a.id ≠ x.id) → r.foldl effStep x = x
  | [], _, _ => rfl
  | a :: r, x, h => by
    rw [List.foldl_cons, effStep_other (h a (List.mem_cons_self ..))]
    exact effFold_skip r x fun b hb => h b (List.mem_cons_of_mem _ hb)
theorem effOne_left {p r : List ActV} {i : Int} (h : ∀ a ∈ p, a.id ≠ i) : effOne (p ++ r) i = effOne r i := by
  unfold effOne
  rw [List.foldl_append, effFold_skip p (oneZ i) h]
theorem effOne_right {p r : List ActV} {i : Int} (h : ∀ a ∈ r, a.id ≠ i) : effOne (p ++ r) i = effOne p i := by
  have e := effOne_id p i
  unfold effOne at e ⊢
  rw [List.foldl_append]
  exact effFold_skip r _ fun a ha => by rw [e]; exact h a ha
theorem effFold_filter (i : Int) : ∀ (l : List ActV) (x : OneK), x.id = i → l.foldl effStep x = (l.filter fun a => decide (a.id = i)).foldl effStep x
  | [], _, _ => rfl
  | a :: l, x, h => by
    rw [List.foldl_cons, List.filter_cons]
    by_cases e : a.id = i
    · rw [decide_eq_true e, if_pos rfl, List.foldl_cons]
      exact effFold_filter i l _ (by rw [effStep_id]; exact h)
    · rw [decide_eq_false e, if_neg (by decide), effStep_other (by rw [h]; exact e)]
      exact effFold_filter i l x h
theorem effOne_filter (l : List ActV) (i : Int) : effOne l i = effOne (l.filter fun a => decide (a.id = i)) i := effFold_filter i l _ rfl
theorem eff_group {p run : List ActV} {i : Int} (hp : ∀ a ∈ p, a.id < i) (hr : ∀ a ∈ run, a.id = i) (h0 : run ≠ []) : eff (p ++ run) = eff p ++ [effOne run i] := by
  have hids : effIds (p ++ run) = effIds p ++ [i] := by
    refine rise_ext (effIds_rise _) ?_ fun y => ?_
    · refine List.pairwise_append.2 ⟨effIds_rise p, List.pairwise_singleton .., fun a ha b hb => ?_⟩
      rw [List.mem_singleton.1 hb]
      obtain ⟨c, hc, rfl⟩ := effIds_mem.1 ha
      exact hp c hc
    · rw [effIds_mem, List.mem_append, effIds_mem, List.mem_singleton]
      constructor
      · rintro ⟨a, ha, rfl⟩
        rcases List.mem_append.1 ha with ha | ha
        · exact .inl ⟨a, ha, rfl⟩
        · exact .inr (hr a ha)
      · rintro (⟨a, ha, rfl⟩ | rfl)
        · exact ⟨a, List.mem_append.2 (.inl ha), rfl⟩
        · obtain ⟨a, ha⟩ := List.exists_mem_of_ne_nil _ h0
          exact ⟨a, List.mem_append.2 (.inr ha), hr a ha⟩
  unfold eff
  rw [hids, List.map_append]
  have e1 : (effIds p).map (effOne (p ++ run)) = (effIds p).map (effOne p) := List.map_congr_left fun j hj => by
    obtain ⟨c, hc, rfl⟩ := effIds_mem.1 hj
    refine effOne_right fun a ha e => ?_
    have h1 := hr a ha
    have h2 := hp c hc
    omega
  have e2 : effOne (p ++ run) i = effOne run i := effOne_left fun a ha => by have := hp a ha; omega
  rw [e1, List.map_singleton, e2]
theorem eff_ranged {l m : List ActV} (h : Ranged l m) : eff m = eff l := by
  have hids : effIds m = effIds l := rise_ext (effIds_rise _) (effIds_rise _) fun y => by
    rw [effIds_mem, effIds_mem]
    constructor
    · rintro ⟨a, ha, e⟩; exact ⟨a, h.perm.mem_iff.1 ha, e⟩
    · rintro ⟨a, ha, e⟩; exact ⟨a, h.perm.mem_iff.2 ha, e⟩
  unfold eff
  rw [hids]
  exact List.map_congr_left fun i _ => by rw [effOne_filter m, effOne_filter l, h.same]
end Go.Proofs.Ytnadhpajelkngaa
