/- The document's own SameAct. Condition: no slice and no text is longer than memory. (Merged of 6 texts.) -/
import Derived.Test.YtjpjdkdbgjipnaaDoorU37
import Derived.Test.YtjpjdkdbgjipnaaDoorU1
namespace Go.Proofs.YtjpjdkdbgjipnaaDoor
open Go.RowKit Go.Deep
def yy91 (limit : Nat) (c : ActV) : List Nat := [c.name.length, yy30 limit c.ops, 3]
def yy34 (limit : Nat) (l : List ActV) : Nat := wts limit 0 (l.map (yy91 limit))
set_option maxHeartbeats 1000000 in
set_option maxRecDepth 100000 in
theorem yy376 (limit : Nat) (b off cap : Nat) (l : List ActV) (hl : l.length ≤ maxLen) (hg : ∀ y ∈ l, y.Good) (w : World) (hc : ActsAt w (some ⟨b, off, none⟩) l) :
  Calls Tryd.prog 10 #[.slice (some ⟨b, off, none⟩) l.length cap, .int .i64 (limit : Int)] w fun e w' => e = .returned (.int .i64 ((yy34 limit l : Nat) : Int)) ∧ Below w.heap.size w w' := by
 unfold maxLen at hl
 have HC := xh hc; clear hc
 have HG := xh hg; clear hg
 obtain ⟨T, HT⟩ : ∃ T, Hid (yy34 limit l = T) := ⟨_, rfl⟩
 rw [HT.out]
 go_enter Tryd.func10, Tryd.ntmps10
 go_wp2
 go_loopw [5, 6] (fun t i wr => ∃ k m : Nat, k ≤ l.length ∧ i = .int .i64 k ∧ t = .int .i64 (m : Int) ∧ m ≤ 1099511627776 ∧ wts limit m ((l.map (yy91 limit)).drop k) = T ∧ Below w.heap.size w wr) (fun _ i _ => l.length - (intOf i).toNat)
 case atStart => exact ⟨0, 0, Nat.zero_le _, rfl, rfl, by omega, HT.out, Below.refl _ _⟩
 case round =>
  obtain ⟨k, m, hk, rfl, rfl, hm, he, hbel⟩ := hrel
  have HE := xh he; clear he
  have HB := xh hbel; clear hbel
  by_cases hlt : k < l.length
  ·have HW := xh (HE.out ▸ yy337 limit m (l.map (yy91 limit)) k (by simpa using hlt) : T = _)
   have HX : Hid ((l.map (yy91 limit))[k]'(by simpa using hlt) = [l[k].name.length, yy30 limit l[k].ops, 3]) := by show _ = _; rw [List.getElem_map]; rfl
   by_cases hml : m ≤ limit
   ·have HCA := xh ((HC.out.below HB.out).at_ hlt)
    have hgk := HG.out _ (List.getElem_mem hlt)
    have hx1 := hgk.2.2.2.1.2
    have hx2 : l[k].ops.length ≤ maxLen := Nat.le_trans hgk.2.2.2.2.2.1 hgk.2.2.2.2.2.2
    have HCM := xh (fun (wx : World) (hh : yy7 wx l[k].opsA l[k].ops) => yy223 limit l[k].opsC hx2 hgk.2.2.2.2.1 wx hh)
    have HOP := xh (HC.out.2 _ (List.getElem_mem hlt))
    clear hgk
    unfold maxLen at hx1 hx2
    have hs1 := bstr_size l[k].name
    obtain ⟨S1, HS1⟩ : ∃ S, Hid (bstr l[k].name = S) := ⟨bstr l[k].name, xh rfl⟩
    obtain ⟨a, HA⟩ : ∃ a, Hid (l[k].name.length = a) := ⟨l[k].name.length, xh rfl⟩
    obtain ⟨c, HCC⟩ : ∃ a, Hid (yy30 limit l[k].ops = a) := ⟨yy30 limit l[k].ops, xh rfl⟩
    have hc40 : c ≤ 1099511627776 := by rw [← HCC.out]; exact yy589 limit _ 0 (by omega)
    obtain ⟨O, HO⟩ : ∃ a, Hid (l[k].ops = a) := ⟨l[k].ops, xh rfl⟩
    obtain ⟨OA, HOA⟩ : ∃ a, Hid (l[k].opsA = a) := ⟨l[k].opsA, xh rfl⟩
    obtain ⟨OC, HOC⟩ : ∃ a, Hid (l[k].opsC = a) := ⟨l[k].opsC, xh rfl⟩
    rw [HS1.out, HO.out, HOA.out, HOC.out] at HCA
    rw [HS1.out] at hs1
    rw [HA.out] at hs1 hx1 HX
    rw [HCC.out] at HX HCM
    rw [HO.out, HOC.out, HOA.out] at HCM
    rw [HO.out, HOA.out] at HOP
    have hk2 : Hid (wr.cell? ⟨b, off + k * 6 + 3, none⟩ = some (.string S1)) := HCA.out.2.2.2.1
    have hk4 : Hid (wr.cell? ⟨b, off + k * 6 + 5, none⟩ = some (.slice OA O.length OC)) := HCA.out.2.2.2.2.2
    have HR : Hid (wts limit (capSum m [a, c, 3]) ((l.map (yy91 limit)).drop (k + 1)) = T) := by show _ = _; rw [HW.out, if_pos hml, HX.out]
    obtain ⟨r, HRR⟩ : ∃ r, Hid (capSum m [a, c, 3] = r) := ⟨_, rfl⟩
    have hr : r ≤ 1099511627776 := by rw [← HRR.out]; exact yy108 _ m hm
    rw [HRR.out] at HR
    have HN := xh (fun (wx : World) (t : TypeId) g hg' => yy264 wx t #[.int .i64 (a : Int), .int .i64 (c : Int), .int .i64 3] [a, c, 3] (fun j x hx => by
     match j, hx with
     | 0, hx => cases hx; rfl
     | 1, hx => cases hx; rfl
     | 2, hx => cases hx; rfl) g hg')
    have HS := xh (fun (wx : World) g (hn : NatsAt wx g 0 [a, c, 3]) => yy95 m (by omega) g 0 3 [a, c, 3] (by simp [maxLen]) (by simp; omega) wx hn)
    rw [HRR.out] at HS
    clear HW HRR HCA
    go_wp2_with fail
    refine wp_region_lit sc0 (by kernel_rfl) (by kernel_rfl) (fun _ _ d _ _ h => by cases d <;> exact h) ?_
    simp only [picked, sc0, xmc, xmn, xgs, xgz, xgd]
    have hq2 := fun e : Ext wr.drew => Ext.cell (w := wr.drew) hk2.out e
    have hq4 := fun e : Ext wr.drew => Ext.cell (w := wr.drew) hk4.out e
    repeat (first | (refine yy0 (by rfl) (fun K hK => ?_); go_big_quiet_op; refine hK _ ?_; clear hK K) | (refine yy2 (by rfl) ?_; simp only [Act.put, xsa, xsz, xss]))
    clear hq2 hq4
    refine yy4 (by rfl) (fun K hK => ?_)
    go_simp
    refine (HCM.out _ (yy7.drew (HOP.out.below HB.out))).mono ?_
    rintro e w1 ⟨rfl, hb1⟩
    have HB1 := xh hb1
    refine hK _ _ hb1 ?_
    clear hK K hb1
    repeat (first | (refine yy0 (by rfl) (fun K hK => ?_); go_big_quiet_op; refine hK _ ?_; clear hK K) | (refine yy2 (by rfl) ?_; simp only [Act.put, xsa, xsz, xss]))
    refine yy4 (by rfl) (fun K hK => ?_)
    go_simp
    refine hK _ _ ((Below.refl _ _).alloc (Nat.le_refl _) _) ?_
    clear hK K
    repeat (first | (refine yy0 (by rfl) (fun K hK => ?_); go_big_quiet_op; refine hK _ ?_; clear hK K) | (refine yy2 (by rfl) ?_; simp only [Act.put, xsa, xsz, xss]))
    refine yy4 (by rfl) (fun K hK => ?_)
    go_simp
    refine (HS.out _ _ (HN.out w1 _ _ rfl)).mono ?_
    rintro e w2 ⟨rfl, rfl⟩
    refine hK _ _ (Below.refl _ _) ?_
    clear hK K
    repeat (first | (refine yy0 (by rfl) (fun K hK => ?_); go_big_quiet_op; refine hK _ ?_; clear hK K) | (refine yy2 (by rfl) ?_; simp only [Act.put, xsa, xsz, xss]))
    refine yy13 ?_
    go_wp2
    go_roundw
    case rel => exact ⟨k + 1, r, by omega, by go_num, rfl, hr, HR.out, balloc (bstep HB.out.drew HB1.out) _⟩
    case measure => simp [intOf]; omega
   ·have HR : Hid (m = T) := by show _ = _; rw [HW.out, if_neg hml]
    have hml' : limit < m := by omega
    go_wp2
    go_ret
    exact ⟨by rw [← HR.out]; rfl, HB.out⟩
  ·have HR : Hid (m = T) := by
    show m = T
    rw [← HE.out, List.drop_eq_nil_of_le (by simp; omega), yy188]
   go_wp2
   go_ret
   exact ⟨by rw [← HR.out]; rfl, HB.out⟩
theorem yy225 (limit : Nat) (A : Option Addr) (cap : Nat) (w : World) :
  Calls Tryd.prog 10 #[.slice A 0 cap, .int .i64 (limit : Int)] w fun e w' => e = .returned (.int .i64 ((yy34 limit [] : Nat) : Int)) ∧ Below w.heap.size w w' := by
 have HR : Hid (0 = yy34 limit []) := by show 0 = yy34 limit []; rw [yy34, List.map_nil, yy188]
 go_enter Tryd.func10, Tryd.ntmps10
 go_wp2
 refine wp_loop_rounds 1 ?_
 rw [rounds_succ]
 go_wp2
 go_ret
 exact ⟨by rw [← HR.out]; rfl, Below.refl _ _⟩
theorem yy117 {A : Option Addr} {l : List ActV} (limit : Nat) (cap : Nat) (hl : l.length ≤ maxLen) (hg : ∀ y ∈ l, y.Good) (w : World) (h : ActsAt w A l) :
  Calls Tryd.prog 10 #[.slice A l.length cap, .int .i64 (limit : Int)] w fun e w' => e = .returned (.int .i64 ((yy34 limit l : Nat) : Int)) ∧ Below w.heap.size w w' := by
 cases l with
 | nil => exact yy225 limit A cap w
 | cons c l =>
  obtain ⟨b, off, rfl, _⟩ := h.form (by simp)
  exact yy376 limit b off cap _ hl hg w h
end Go.Proofs.YtjpjdkdbgjipnaaDoor
namespace Go.Proofs.YtjpjdkdbgjipnaaDoor
open Go.RowKit
def baseOf : Option Nat → World → Nat
 | none, w => w.heap.size
 | some b, _ => b
theorem yy526 {β : Option Nat} {w x : World} (h : w.heap.size ≤ x.heap.size) : baseOf β w ≤ baseOf β x := by
 cases β with
 | none => exact h
 | some b => exact Nat.le_refl _
def ExtB (β : Option Nat) (w : World) : Type := { x : World // Below (baseOf β w) w x }
instance (β : Option Nat) (w : World) : Inhabited (ExtB β w) := ⟨⟨w, Below.refl _ _⟩⟩
theorem yy595 {β : Option Nat} {w x y : World} (h : Below (baseOf β w) w x) (h2 : Below (baseOf β x) x y) : Below (baseOf β w) w y := h.trans (h2.mono (yy526 h.size))
theorem yy267 {B : Nat} {x : World} (h : B ≤ x.heap.size) (o : Obj) : Below B x (x.alloc o) := (Below.refl _ _).alloc h o
inductive Sched (α : Type) where
 | done : Sched α
 | quiet : α → Sched α → Sched α
 | one : α → Sched α → Sched α
 | two : α → Sched α → α → Sched α → Sched α
namespace Sched
def depth {α : Type} : Sched α → Nat
 | done => 0
 | quiet _ s => s.depth + 1
 | one _ s => s.depth + 1
 | two _ s _ _ => s.depth + 1
def ok (md : Region.Mode) (ops : Array Oper) : Sched Nat → Array Bool → Bool
 | done, listed => (Region.ready md ops listed).isEmpty
 | quiet i s, listed => (match ops[i]? with | some o => yy151 o | none => false) && (Region.ready md ops listed).contains i && Region.free md ops listed i && ok md ops s (listed.setIfInBounds i true)
 | one i s, listed => (Region.ready md ops listed == [i]) && ok md ops s (listed.setIfInBounds i true)
 | two i s j t, listed => (Region.ready md ops listed == [i, j]) && (s.depth == t.depth) && ok md ops s (listed.setIfInBounds i true) && ok md ops t (listed.setIfInBounds j true)
def under (n : Nat) : Sched Nat → Bool
 | done => true
 | quiet i s => decide (i < n) && under n s
 | one i s => decide (i < n) && under n s
 | two i s j t => decide (i < n) && under n s && (decide (j < n) && under n t)
def picked (ops : List Oper) : Sched Nat → Sched Oper
 | done => done
 | quiet i s => quiet ((ops[i]?).getD default) (picked ops s)
 | one i s => one ((ops[i]?).getD default) (picked ops s)
 | two i s j t => two ((ops[i]?).getD default) (picked ops s) ((ops[j]?).getD default) (picked ops t)
def walk (P : Program) (β : Option Nat) (ops : Array Oper) (Q : Exit → Act → World → Prop) : Sched Oper → Act → World → Prop
 | done, a, w => Q .normal a w
 | quiet o s, a, w => if Region.wanted o (yielded ops a.tmps) = true then o.quiet P a (fun x => ∃ e : ExtB β w, x = e.val) (fun a' => walk P β ops Q s a' w) else walk P β ops Q s (a.put o.dst undef) w
 | one o s, a, w => if Region.wanted o (yielded ops a.tmps) = true then o.wp P a w (fun a' w' => Below (baseOf β w) w w' ∧ walk P β ops Q s a' w') Q else walk P β ops Q s (a.put o.dst undef) w
 | two o s o' s', a, w => (if Region.wanted o (yielded ops a.tmps) = true then o.wp P a w (fun a' w' => Below (baseOf β w) w w' ∧ walk P β ops Q s a' w') Q else walk P β ops Q s (a.put o.dst undef) w) ∧
   (if Region.wanted o' (yielded ops a.tmps) = true then o'.wp P a w (fun a' w' => Below (baseOf β w) w w' ∧ walk P β ops Q s' a' w') Q else walk P β ops Q s' (a.put o'.dst undef) w)
section
variable {P : Program} {β : Option Nat} {ops : Array Oper} {Q : Exit → Act → World → Prop} {md : Region.Mode}
theorem yy268 {ops : List Oper} {i fuel : Nat} {s : Sched Nat} {listed : Array Bool} {a : Act} {w : World} (hi : i < ops.length)
  (ih : ∀ (a : Act) (w : World), walk P β ops.toArray Q (picked ops s) a w → wpAnyH P md ops.toArray Q (fun x => Below (baseOf β w) w x) fuel (listed.setIfInBounds i true) a w)
  (h : if Region.wanted ((ops[i]?).getD default) (yielded ops.toArray a.tmps) = true then ((ops[i]?).getD default).wp P a w (fun a' w' => Below (baseOf β w) w w' ∧ walk P β ops.toArray Q (picked ops s) a' w') Q
   else walk P β ops.toArray Q (picked ops s) (a.put ((ops[i]?).getD default).dst undef) w) :
  wpOp P ops.toArray Q i (fun a' w' => Below (baseOf β w) w w' ∧ wpAnyH P md ops.toArray Q (fun x => Below (baseOf β w) w x) fuel (listed.setIfInBounds i true) a' w') a w := by
 have e : (ops[i]?).getD default = ops[i] := by simp [hi]
 have ho : ops.toArray[i]? = some ops[i] := by simp [hi]
 rw [e] at h
 unfold wpOp
 simp only [ho]
 split at h
 ·rename_i hw
  rw [if_pos hw]
  refine .inl (Oper.wp_mono (fun a' w' h' => ⟨h'.1, ?_⟩) h)
  exact yy109 (fun x hx => yy595 h'.1 hx) _ _ _ _ (ih _ _ h'.2)
 ·rename_i hw
  rw [if_neg hw]
  exact ⟨Below.refl _ _, ih _ _ h⟩
theorem yy596 {ops : List Oper} (hs : Region.noSelect ops.toArray = true) (hQ : ∀ c a d v w, Q (.panic c) (Act.put a d v) w → Q (.panic c) a w) :
  ∀ (s : Sched Nat) (listed : Array Bool) (a : Act) (w : World), ok md ops.toArray s listed = true → under ops.length s = true → walk P β ops.toArray Q (picked ops s) a w → wpAnyH P md ops.toArray Q (fun x => Below (baseOf β w) w x) s.depth listed a w := by
 intro s
 induction s with
 | done =>
  intro listed a w hB _ h
  exact ⟨by simpa [ok] using hB, h⟩
 | quiet i s ih =>
  intro listed a w hB hu h
  simp only [under, Bool.and_eq_true, decide_eq_true_eq] at hu
  have e : (ops[i]?).getD default = ops[i] := by simp [hu.1]
  have ho : ops.toArray[i]? = some ops[i] := by simp [hu.1]
  simp only [ok, ho, Bool.and_eq_true] at hB
  obtain ⟨⟨⟨hk, hr⟩, hf⟩, hB'⟩ := hB
  simp only [picked, walk, e] at h
  split at h
  ·rename_i hw
   obtain ⟨v, hv, hn⟩ := h
   refine wpAnyH_take ho hs hf hr (fun c a w h => hQ c a _ _ w h) (.inl ⟨hw, fun x hx => ?_⟩) (Below.refl _ _) (ih _ _ _ hB' hu.2 hn)
   have hq := hv x ⟨⟨x, hx⟩, rfl⟩
   unfold Oper.quietAt at hq
   generalize hr : (execOp a.eval ops[i]).run P x = r at hq
   cases r with
   | halt y w' => simp only [Oper.quietUpon] at hq
   | ok n w' =>
    obtain ⟨u, rfl⟩ := yy103 hk hr
    simp only [Oper.quietUpon] at hq
    obtain ⟨rfl, rfl⟩ := hq
    rfl
  ·rename_i hw
   exact wpAnyH_take ho hs hf hr (fun c a w h => hQ c a _ _ w h) (.inr ⟨by simpa using hw, rfl⟩) (Below.refl _ _) (ih _ _ _ hB' hu.2 h)
 | one i s ih =>
  intro listed a w hB hu h
  simp only [under, Bool.and_eq_true, decide_eq_true_eq] at hu
  simp only [ok, Bool.and_eq_true, beq_iff_eq] at hB
  simp only [picked, walk] at h
  refine wpAnyH_all hB.1 (by simp) (fun j hj => ?_)
  obtain rfl : j = i := by simpa using hj
  exact yy268 hu.1 (fun a w h => ih _ _ _ hB.2 hu.2 h) h
 | two i s j t ihs iht =>
  intro listed a w hB hu h
  simp only [under, Bool.and_eq_true, decide_eq_true_eq] at hu
  simp only [ok, Bool.and_eq_true, beq_iff_eq] at hB
  simp only [picked, walk] at h
  refine wpAnyH_all hB.1.1.1 (by simp) (fun k hk => ?_)
  rcases List.mem_cons.1 hk with rfl | hk
  ·exact yy268 hu.1.1 (fun a w h => ihs _ _ _ hB.1.2 hu.1.2 h) h.1
  ·obtain rfl : k = j := by simpa using hk
   refine yy268 hu.2.1 (fun a w h => ?_) h.2
   rw [hB.1.1.2]
   exact iht _ _ _ hB.2 hu.2.2 h
theorem yy694 (β : Option Nat) {id : Nat} {ops : List Oper} {a : Act} {w : World} (s : Sched Nat) (hm : P.follows .mixedOrders = true)
  (hs : (Region.noSelect ops.toArray && (s.depth == ops.toArray.size) && ok .any ops.toArray s (Array.replicate ops.toArray.size false) && under ops.length s) = true)
  (hQ : ∀ c a d v w, Q (.panic c) (Act.put a d v) w → Q (.panic c) a w) (h : walk P β ops.toArray Q (picked ops s) a w.drew) : (Code.region id ops.toArray true).wp P Q a w := by
 simp only [Bool.and_eq_true, beq_iff_eq] at hs
 refine wp_region_held (S := fun x => Below (baseOf β w.drew) w.drew x) hm ?_
 have := yy596 (md := .any) hs.1.1.1 hQ s _ a w.drew hs.1.2 hs.2 h
 rw [hs.1.1.2] at this
 exact this
theorem walk_done {a : Act} {w : World} (h : Q .normal a w) : walk P β ops Q .done a w := h
theorem yy671 {s : Sched Oper} {o : Oper} {a : Act} {w : World} (hw : Region.wanted o (yielded ops a.tmps) = false) (h : walk P β ops Q s (a.put o.dst undef) w) : walk P β ops Q (.quiet o s) a w := by
 simp only [walk]; rw [if_neg (by rw [hw]; exact Bool.false_ne_true)]; exact h
theorem yy857 {s : Sched Oper} {o : Oper} {a : Act} {w : World} (hw : Region.wanted o (yielded ops a.tmps) = true)
  (h : ∀ K : Act → Prop, (∀ a', walk P β ops Q s a' w → K a') → o.quiet P a (fun x => ∃ e : ExtB β w, x = e.val) K) : walk P β ops Q (.quiet o s) a w := by
 simp only [walk]; rw [if_pos hw]; exact h _ fun _ h => h
theorem walk_one {s : Sched Oper} {o : Oper} {a : Act} {w : World} (hw : Region.wanted o (yielded ops a.tmps) = true)
  (h : ∀ K : Act → World → Prop, (∀ a' w', Below (baseOf β w) w w' → walk P β ops Q s a' w' → K a' w') → o.wp P a w K Q) : walk P β ops Q (.one o s) a w := by
 simp only [walk]; rw [if_pos hw]; exact h _ fun _ _ h1 h2 => ⟨h1, h2⟩
theorem walk_two {s t : Sched Oper} {o o' : Oper} {a : Act} {w : World} (h1 : walk P β ops Q (.one o s) a w) (h2 : walk P β ops Q (.one o' t) a w) : walk P β ops Q (.two o s o' t) a w := by
 simp only [walk] at h1 h2 ⊢; exact ⟨h1, h2⟩
end
attribute [irreducible] walk
end Sched
def AnyW : Type := { _x : World // True }
instance : Inhabited AnyW := ⟨⟨default, trivial⟩⟩
namespace Sched
def walkF (P : Program) (ops : Array Oper) (Q : Exit → Act → World → Prop) : Sched Oper → Act → World → Prop
 | done, a, w => Q .normal a w
 | quiet o s, a, w => if Region.wanted o (yielded ops a.tmps) = true then o.quiet P a (fun x => ∃ e : AnyW, x = e.val) (fun a' => walkF P ops Q s a' w) else walkF P ops Q s (a.put o.dst undef) w
 | one o s, a, w => if Region.wanted o (yielded ops a.tmps) = true then o.wp P a w (fun a' w' => walkF P ops Q s a' w') Q else walkF P ops Q s (a.put o.dst undef) w
 | two o s o' s', a, w => (if Region.wanted o (yielded ops a.tmps) = true then o.wp P a w (fun a' w' => walkF P ops Q s a' w') Q else walkF P ops Q s (a.put o.dst undef) w) ∧
   (if Region.wanted o' (yielded ops a.tmps) = true then o'.wp P a w (fun a' w' => walkF P ops Q s' a' w') Q else walkF P ops Q s' (a.put o'.dst undef) w)
section
variable {P : Program} {ops : Array Oper} {Q : Exit → Act → World → Prop} {md : Region.Mode}
theorem yy209 {ops : List Oper} {i fuel : Nat} {s : Sched Nat} {listed : Array Bool} {a : Act} {w : World} (hi : i < ops.length)
  (ih : ∀ (a : Act) (w : World), walkF P ops.toArray Q (picked ops s) a w → wpAnyH P md ops.toArray Q (fun _ => True) fuel (listed.setIfInBounds i true) a w)
  (h : if Region.wanted ((ops[i]?).getD default) (yielded ops.toArray a.tmps) = true then ((ops[i]?).getD default).wp P a w (fun a' w' => walkF P ops.toArray Q (picked ops s) a' w') Q
   else walkF P ops.toArray Q (picked ops s) (a.put ((ops[i]?).getD default).dst undef) w) :
  wpOp P ops.toArray Q i (fun a' w' => True ∧ wpAnyH P md ops.toArray Q (fun _ => True) fuel (listed.setIfInBounds i true) a' w') a w := by
 have e : (ops[i]?).getD default = ops[i] := by simp [hi]
 have ho : ops.toArray[i]? = some ops[i] := by simp [hi]
 rw [e] at h
 unfold wpOp
 simp only [ho]
 split at h
 ·rename_i hw
  rw [if_pos hw]
  exact .inl (Oper.wp_mono (fun a' w' h' => ⟨trivial, ih _ _ h'⟩) h)
 ·rename_i hw
  rw [if_neg hw]
  exact ⟨trivial, ih _ _ h⟩
theorem yy527 {ops : List Oper} (hs : Region.noSelect ops.toArray = true) (hQ : ∀ c a d v w, Q (.panic c) (Act.put a d v) w → Q (.panic c) a w) :
  ∀ (s : Sched Nat) (listed : Array Bool) (a : Act) (w : World), ok md ops.toArray s listed = true → under ops.length s = true → walkF P ops.toArray Q (picked ops s) a w → wpAnyH P md ops.toArray Q (fun _ => True) s.depth listed a w := by
 intro s
 induction s with
 | done =>
  intro listed a w hB _ h
  exact ⟨by simpa [ok] using hB, h⟩
 | quiet i s ih =>
  intro listed a w hB hu h
  simp only [under, Bool.and_eq_true, decide_eq_true_eq] at hu
  have e : (ops[i]?).getD default = ops[i] := by simp [hu.1]
  have ho : ops.toArray[i]? = some ops[i] := by simp [hu.1]
  simp only [ok, ho, Bool.and_eq_true] at hB
  obtain ⟨⟨⟨hk, hr⟩, hf⟩, hB'⟩ := hB
  simp only [picked, walkF, e] at h
  split at h
  ·rename_i hw
   obtain ⟨v, hv, hn⟩ := h
   refine wpAnyH_take ho hs hf hr (fun c a w h => hQ c a _ _ w h) (.inl ⟨hw, fun x hx => ?_⟩) trivial (ih _ _ _ hB' hu.2 hn)
   have hq := hv x ⟨⟨x, hx⟩, rfl⟩
   unfold Oper.quietAt at hq
   generalize hr : (execOp a.eval ops[i]).run P x = r at hq
   cases r with
   | halt y w' => simp only [Oper.quietUpon] at hq
   | ok n w' =>
    obtain ⟨u, rfl⟩ := yy103 hk hr
    simp only [Oper.quietUpon] at hq
    obtain ⟨rfl, rfl⟩ := hq
    rfl
  ·rename_i hw
   exact wpAnyH_take ho hs hf hr (fun c a w h => hQ c a _ _ w h) (.inr ⟨by simpa using hw, rfl⟩) trivial (ih _ _ _ hB' hu.2 h)
 | one i s ih =>
  intro listed a w hB hu h
  simp only [under, Bool.and_eq_true, decide_eq_true_eq] at hu
  simp only [ok, Bool.and_eq_true, beq_iff_eq] at hB
  simp only [picked, walkF] at h
  refine wpAnyH_all hB.1 (by simp) (fun j hj => ?_)
  obtain rfl : j = i := by simpa using hj
  exact yy209 hu.1 (fun a w h => ih _ _ _ hB.2 hu.2 h) h
 | two i s j t ihs iht =>
  intro listed a w hB hu h
  simp only [under, Bool.and_eq_true, decide_eq_true_eq] at hu
  simp only [ok, Bool.and_eq_true, beq_iff_eq] at hB
  simp only [picked, walkF] at h
  refine wpAnyH_all hB.1.1.1 (by simp) (fun k hk => ?_)
  rcases List.mem_cons.1 hk with rfl | hk
  ·exact yy209 hu.1.1 (fun a w h => ihs _ _ _ hB.1.2 hu.1.2 h) h.1
  ·obtain rfl : k = j := by simpa using hk
   refine yy209 hu.2.1 (fun a w h => ?_) h.2
   rw [hB.1.1.2]
   exact iht _ _ _ hB.2 hu.2.2 h
theorem yy695 {id : Nat} {ops : List Oper} {a : Act} {w : World} (s : Sched Nat) (hm : P.follows .mixedOrders = true)
  (hs : (Region.noSelect ops.toArray && (s.depth == ops.toArray.size) && ok .any ops.toArray s (Array.replicate ops.toArray.size false) && under ops.length s) = true)
  (hQ : ∀ c a d v w, Q (.panic c) (Act.put a d v) w → Q (.panic c) a w) (h : walkF P ops.toArray Q (picked ops s) a w.drew) : (Code.region id ops.toArray true).wp P Q a w := by
 simp only [Bool.and_eq_true, beq_iff_eq] at hs
 refine wp_region_held (S := fun _ => True) hm ?_
 have := yy527 (md := .any) hs.1.1.1 hQ s _ a w.drew hs.1.2 hs.2 h
 rw [hs.1.1.2] at this
 exact this
theorem yy858 {a : Act} {w : World} (h : Q .normal a w) : walkF P ops Q .done a w := h
theorem yy597 {s : Sched Oper} {o : Oper} {a : Act} {w : World} (hw : Region.wanted o (yielded ops a.tmps) = false) (h : walkF P ops Q s (a.put o.dst undef) w) : walkF P ops Q (.quiet o s) a w := by
 simp only [walkF]; rw [if_neg (by rw [hw]; exact Bool.false_ne_true)]; exact h
theorem yy844 {s : Sched Oper} {o : Oper} {a : Act} {w : World} (hw : Region.wanted o (yielded ops a.tmps) = true)
  (h : ∀ K : Act → Prop, (∀ a', walkF P ops Q s a' w → K a') → o.quiet P a (fun x => ∃ e : AnyW, x = e.val) K) : walkF P ops Q (.quiet o s) a w := by
 simp only [walkF]; rw [if_pos hw]; exact h _ fun _ h => h
theorem walkF_one {s : Sched Oper} {o : Oper} {a : Act} {w : World} (hw : Region.wanted o (yielded ops a.tmps) = true)
  (h : ∀ K : Act → World → Prop, (∀ a' w', walkF P ops Q s a' w' → K a' w') → o.wp P a w K Q) : walkF P ops Q (.one o s) a w := by
 simp only [walkF]; rw [if_pos hw]; exact h _ fun _ _ h2 => h2
theorem walkF_two {s t : Sched Oper} {o o' : Oper} {a : Act} {w : World} (h1 : walkF P ops Q (.one o s) a w) (h2 : walkF P ops Q (.one o' t) a w) : walkF P ops Q (.two o s o' t) a w := by
 simp only [walkF] at h1 h2 ⊢; exact ⟨h1, h2⟩
end
attribute [irreducible] walkF
end Sched
end Go.Proofs.YtjpjdkdbgjipnaaDoor
namespace Go.Proofs.YtjpjdkdbgjipnaaDoor
open Go.RowKit Go.Deep
def NodesC (w : World) (A : Option Addr) (c : Nat) (l : List NodeV) : Prop := yy14 w A l ∧ l.length ≤ c
theorem NodesC.below {w w' : World} {A : Option Addr} {c : Nat} {l : List NodeV} (h : NodesC w A c l) (hb : Below w.heap.size w w') : NodesC w' A c l := ⟨h.1.below hb, h.2⟩
set_option maxHeartbeats 1000000 in
set_option maxRecDepth 100000 in
theorem yy48 (A : Option Addr) (c : Nat) (l : List NodeV) (id : Int) (hl : l.length ≤ maxLen) (w : World) (hA : yy14 w A l) :
  Calls Tryd.prog 31 #[.slice A l.length c, .int .i64 id] w fun e w' => e = .returned (.int .i64 (findI (rFind l id))) ∧ w = w' := by
 unfold maxLen at hl
 have HA := xh hA; clear hA
 obtain ⟨T, HT⟩ : ∃ T, Hid (rFind l id = T) := ⟨_, xh rfl⟩
 rw [HT.out]
 go_enter Tryd.func31, Tryd.ntmps31
 go_wp2
 go_loopw [4, 5] (fun r i wr => ∃ k : Nat, k ≤ l.length ∧ r = .int .i64 0 ∧ i = .int .i64 (k : Int) ∧ wr = w ∧ Hid (∀ (j : Nat) (hj : j < l.length), j < k → l[j].id ≠ id)) (fun _ i _ => l.length - (intOf i).toNat)
 case atStart => exact ⟨0, Nat.zero_le _, rfl, rfl, rfl, xh (fun j _ h => by omega)⟩
 case round =>
  obtain ⟨k, hk, rfl, rfl, rfl, HN⟩ := hrel
  by_cases hlt : k < l.length
  ·obtain ⟨b, off, rfl, _⟩ := HA.out.form (by omega)
   have hc0 := (HA.out.at_ hlt).1
   have HE : Hid (l[k].id = id → T = some k) := fun h => by rw [← HT.out]; exact yy240 hlt h HN.out
   have HNN : Hid (l[k].id ≠ id → ∀ (j : Nat) (hj : j < l.length), j < k + 1 → l[j].id ≠ id) := fun h j hj hjk => by
    rcases Nat.lt_or_ge j k with g | g
    ·exact HN.out j hj g
    ·obtain rfl : j = k := by omega
     exact h
   generalize l[k].id = y at hc0 HE HNN
   by_cases he : y = id
   ·have HR := xh (HE.out he)
    subst he
    clear HNN HE
    go_wp2
    go_ret
    exact ⟨by rw [HR.out]; rfl, rfl⟩
   ·have hne : (y == id) = false := xn he
    have HR := xh (HNN.out he)
    clear HNN HE he
    go_wp2
    go_roundw
    case rel => exact ⟨k + 1, by omega, rfl, by go_num, trivial, HR⟩
    case measure => simp [intOf]; omega
  ·have HR : Hid (T = none) := by
    show T = none
    rw [← HT.out]
    refine yy345 fun y hy => ?_
    obtain ⟨j, hj⟩ := List.getElem?_of_mem hy
    obtain ⟨h1, h2⟩ := List.getElem?_eq_some_iff.1 hj
    rw [← h2]
    exact HN.out j h1 (by omega)
   go_wp2
   go_ret
   exact ⟨by rw [HR.out]; rfl, rfl⟩
set_option maxHeartbeats 1000000 in
set_option maxRecDepth 100000 in
theorem yy270 (A : Option Addr) (c : Nat) (l : List NodeV) (parent : Int) (name : List Nat) (hl : l.length ≤ maxLen) (hg : ∀ y ∈ l, y.Good) (hn : ∀ x ∈ name, x < 256) (w : World) (hA : yy14 w A l) :
  Calls Tryd.prog 28 #[.slice A l.length c, .int .i64 parent, .string (bstr name)] w fun e w' => e = .returned (.int .i64 (rChild l parent name)) ∧ w = w' := by
 unfold maxLen at hl
 have HA := xh hA; clear hA
 have HG := xh hg; clear hg
 have HNM := xh hn; clear hn
 obtain ⟨T, HT⟩ : ∃ T, Hid (rChild l parent name = T) := ⟨_, xh rfl⟩
 rw [HT.out]
 go_enter Tryd.func28, Tryd.ntmps28
 go_wp2
 go_loopw [6, 7] (fun r i wr => ∃ k : Nat, k ≤ l.length ∧ r = .int .i64 0 ∧ i = .int .i64 (k : Int) ∧ wr = w ∧ Hid (∀ (j : Nat) (hj : j < l.length), j < k → ¬ (l[j].parent = parent ∧ l[j].name = name))) (fun _ i _ => l.length - (intOf i).toNat)
 case atStart => exact ⟨0, Nat.zero_le _, rfl, rfl, rfl, xh (fun j _ h => by omega)⟩
 case round =>
  obtain ⟨k, hk, rfl, rfl, rfl, HN⟩ := hrel
  by_cases hlt : k < l.length
  ·obtain ⟨b, off, rfl, _⟩ := HA.out.form (by omega)
   obtain ⟨hc0, hc1, hc2, _, _⟩ := HA.out.at_ hlt
   have HGK := xh (HG.out _ (List.getElem_mem hlt)).2.2.1.1
   have HE : Hid (l[k].parent = parent ∧ l[k].name = name → T = l[k].id) := fun h => by rw [← HT.out]; exact yy696 hlt h HN.out
   have HNN : Hid (¬ (l[k].parent = parent ∧ l[k].name = name) → ∀ (j : Nat) (hj : j < l.length), j < k + 1 → ¬ (l[j].parent = parent ∧ l[j].name = name)) := fun h j hj hjk => by
    rcases Nat.lt_or_ge j k with g | g
    ·exact HN.out j hj g
    ·obtain rfl : j = k := by omega
     exact h
   generalize l[k].id = y at hc0 HE
   generalize l[k].parent = p at hc1 HE HNN
   generalize l[k].name = nm at hc2 HE HNN HGK
   by_cases he : p = parent
   ·by_cases hm : nm = name
    ·have HR := xh (HE.out ⟨he, hm⟩)
     subst he hm
     clear HNN HE
     go_wp2
     go_ret
     exact ⟨by rw [HR.out]; rfl, rfl⟩
    ·have HR := xh (HNN.out fun h => hm h.2)
     have hne : ((bstr nm).toList == (bstr name).toList) = false := bstr_neq fun h => hm (bstr_inj _ _ HGK.out HNM.out h)
     subst he
     clear HNN HE hm
     go_wp2
     go_roundw
     case rel => exact ⟨k + 1, by omega, rfl, by go_num, trivial, HR⟩
     case measure => simp [intOf]; omega
   ·have hne : (p == parent) = false := xn he
    have HR := xh (HNN.out fun h => he h.1)
    clear HNN HE he
    go_wp2
    go_roundw
    case rel => exact ⟨k + 1, by omega, rfl, by go_num, trivial, HR⟩
    case measure => simp [intOf]; omega
  ·have HR : Hid (T = -1) := by
    show T = -1
    rw [← HT.out]
    refine yy528 fun y hy => ?_
    obtain ⟨j, hj⟩ := List.getElem?_of_mem hy
    obtain ⟨h1, h2⟩ := List.getElem?_eq_some_iff.1 hj
    rw [← h2]
    exact HN.out j h1 (by omega)
   go_wp2
   go_ret
   exact ⟨by rw [HR.out]; rfl, rfl⟩
set_option maxHeartbeats 1000000 in
set_option maxRecDepth 100000 in
theorem yy226 (A : Option Addr) (c : Nat) (l : List NodeV) (id top : Int) (hl : l.length ≤ 1099511627776) (w : World) (hA : yy14 w A l) :
  Calls Tryd.prog 32 #[.slice A l.length c, .int .i64 id, .int .i64 top] w fun e w' => e = .returned (.bool (yy80 l id top)) ∧ w = w' := by
 have HA := xh hA; clear hA
 obtain ⟨T, HT⟩ : ∃ T, Hid (yy80 l id top = T) := ⟨_, xh rfl⟩
 rw [HT.out]
 have HF := xh (fun (x : Int) => yy48 A c l x (by unfold maxLen; omega) w HA.out)
 go_enter Tryd.func32, Tryd.ntmps32
 go_wp2
 go_loopw [1, 6, 7] (fun x r i wr => ∃ (k n : Nat) (y : Int), k + n = l.length + 1 ∧ x = .int .i64 y ∧ r = .bool false ∧ i = .int .i64 (k : Int) ∧ wr = w ∧ Hid (wthn l top n y = T)) (fun _ _ i _ => l.length + 1 - (intOf i).toNat)
 case atStart => exact ⟨0, l.length + 1, id, by omega, rfl, rfl, rfl, rfl, by show _ = _; rw [← HT.out, yy111]⟩
 case round =>
  obtain ⟨k, n, y, hkn, rfl, rfl, rfl, rfl, HR⟩ := hrel
  cases n with
  | zero =>
   have hki : (l.length : Int) < (k : Int) := by omega
   have HE : Hid (T = true) := by show T = true; rw [← HR.out, yy346]
   go_wp2
   go_ret
   exact ⟨by rw [HE.out]; rfl, rfl⟩
  | succ n =>
   have hki : (k : Int) ≤ (l.length : Int) := by omega
   have hkn' : k ≤ l.length := by omega
   by_cases hy : y = top
   ·subst hy
    have HE : Hid (T = true) := by show T = true; rw [← HR.out, yy428]
    go_wp2
    go_ret
    exact ⟨by rw [HE.out]; rfl, rfl⟩
   ·have hne : (y == top) = false := xn hy
    have HFY := xh (HF.out y)
    cases hf : rFind l y with
    | none =>
     have HE : Hid (T = false) := by show T = false; rw [← HR.out, yy241 hy hf]
     rw [hf] at HFY
     clear hf hy
     go_wp2_with fail
     refine (HFY.out).mono ?_
     rintro e v ⟨rfl, rfl⟩
     rw [show findI none = -1 from rfl]
     go_wp2
     go_ret
     exact ⟨by rw [HE.out]; rfl, rfl⟩
    | some q =>
     obtain ⟨hq, _, _⟩ := yy21 hf
     have HE : Hid (wthn l top n l[q].parent = T) := by show _ = T; rw [← HR.out, yy484 hy hq hf]
     rw [hf] at HFY
     obtain ⟨b, off, rfl, _⟩ := HA.out.form (by omega)
     have hc1 := (HA.out.at_ hq).2.1
     generalize l[q].parent = p at hc1 HE
     clear hf hy
     have hql : (q : Int) < (l.length : Int) := by omega
     go_wp2_with fail
     refine (HFY.out).mono ?_
     rintro e v ⟨rfl, rfl⟩
     rw [show findI (some q) = (q : Int) from rfl]
     go_wp2
     go_roundw
     case rel => exact ⟨k + 1, n, p, by omega, rfl, rfl, by go_num, trivial, HE⟩
     case measure => simp [intOf]; omega
noncomputable def sameB (l m : List CompV) : Bool := @decide (l = m) (Classical.propDecidable _)
theorem yy248 {l m : List CompV} (h : l = m) : sameB l m = true := by unfold sameB; exact @decide_eq_true _ (Classical.propDecidable _) h
theorem yy212 {l m : List CompV} (h : ¬ l = m) : sameB l m = false := by unfold sameB; exact @decide_eq_false _ (Classical.propDecidable _) h
set_option maxHeartbeats 2000000 in
set_option maxRecDepth 100000 in
theorem yy535 (A B : Option Addr) (ca cb : Nat) (l m : List CompV) (hl : l.length ≤ maxLen) (hm : m.length ≤ maxLen) (hgl : ∀ y ∈ l, y.Good) (hgm : ∀ y ∈ m, y.Good) (w : World) (hA : yy7 w A l) (hB : yy7 w B m) :
  Calls Tryd.prog 65 #[.slice A l.length ca, .slice B m.length cb] w fun e w' => e = .returned (.bool (sameB l m)) ∧ Below w.heap.size w w' := by
 unfold maxLen at hl hm
 have HA := xh hA; clear hA
 have HB := xh hB; clear hB
 have HGL := xh hgl; clear hgl
 have HGM := xh hgm; clear hgm
 obtain ⟨T, HT⟩ : ∃ T, Hid (sameB l m = T) := ⟨_, xh rfl⟩
 rw [HT.out]
 by_cases hlen : l.length = m.length
 ·rw [← hlen]
  have HLEN := xh hlen
  clear hlen
  go_enter Tryd.func65, Tryd.ntmps65
  go_wp2
  go_loopw [5] (fun i wr => ∃ k : Nat, k ≤ l.length ∧ i = .int .i64 k ∧ l.take k = m.take k ∧ Below w.heap.size w wr) (fun i _ => l.length - (intOf i).toNat)
  case atStart => exact ⟨0, Nat.zero_le _, rfl, rfl, Below.refl _ _⟩
  case round =>
   obtain ⟨k, hk, rfl, htk, hbel⟩ := hrel
   have HBEL := xh hbel; clear hbel
   have HTK := xh htk; clear htk
   by_cases hlt : k < l.length
   ·have hlt2 : k < m.length := by have := HLEN.out; omega
    obtain ⟨b1, o1, rfl, _⟩ := HA.out.form (by omega)
    obtain ⟨b2, o2, rfl, _⟩ := HB.out.form (by omega)
    obtain ⟨x0, x1, x2⟩ := (HA.out.below HBEL.out).at_ hlt
    obtain ⟨y0, y1, y2⟩ := (HB.out.below HBEL.out).at_ hlt2
    have HYES : Hid (l[k] = m[k] → l.take (k + 1) = m.take (k + 1)) := fun h => by rw [List.take_succ_eq_append_getElem hlt, List.take_succ_eq_append_getElem hlt2, HTK.out, h]
    have HNO : Hid (l[k] ≠ m[k] → T = false) := fun h => by rw [← HT.out]; exact yy212 fun e => h (by subst e; rfl)
    have HG1 := xh (HGL.out l[k] (List.getElem_mem hlt))
    have HG2 := xh (HGM.out m[k] (List.getElem_mem hlt2))
    generalize l[k] = c at x0 x1 x2 HYES HNO HG1
    generalize m[k] = d at y0 y1 y2 HYES HNO HG2
    clear hlt2
    obtain ⟨kd, n, tx⟩ := c
    obtain ⟨kd2, n2, tx2⟩ := d
    simp only at x0 x1 x2 y0 y1 y2
    by_cases e0 : kd = kd2
    ·subst e0
     by_cases e1 : n = n2
     ·subst e1
      by_cases e2 : tx = tx2
      ·subst e2
       go_wp2_with fail
       go_region
       go_wp2
       go_roundw
       case rel => exact ⟨k + 1, by omega, by go_num, HYES.out trivial, HBEL.out.drew⟩
       case measure => simp [intOf]; omega
      ·have HF : Hid (T = false) := HNO.out fun h => e2 (by injection h)
       have g2 : ((bstr tx).toList == (bstr tx2).toList) = false := bstr_neq fun h => e2 (bstr_inj _ _ HG1.out.2.2.1 HG2.out.2.2.1 h)
       have g2' : ((bstr tx).toList != (bstr tx2).toList) = true := by rw [bne, g2]; rfl
       clear e2
       go_wp2_with fail
       go_region
       go_wp2
       go_ret
       exact ⟨by rw [HF.out]; rfl, HBEL.out.drew⟩
     ·have HF : Hid (T = false) := HNO.out fun h => e1 (by injection h)
      have g1 : (n == n2) = false := xn e1
      have g1' : (n != n2) = true := bne_iff_ne.2 e1
      clear e1
      go_wp2_with fail
      go_region
      go_wp2
      go_ret
      exact ⟨by rw [HF.out]; rfl, HBEL.out.drew⟩
    ·have HF : Hid (T = false) := HNO.out fun h => e0 (by injection h)
     have g0 : (kd == kd2) = false := xn e0
     have g0' : (kd != kd2) = true := bne_iff_ne.2 e0
     clear e0
     go_wp2_with fail
     go_region
     go_wp2
     go_ret
     exact ⟨by rw [HF.out]; rfl, HBEL.out.drew⟩
   ·have HF : Hid (T = true) := by
     show T = true
     rw [← HT.out]
     apply yy248
     have := HTK.out
     rwa [List.take_of_length_le (by omega), List.take_of_length_le (by have := HLEN.out; omega)] at this
    go_wp2
    go_ret
    exact ⟨by rw [HF.out]; rfl, HBEL.out⟩
 ·have HF : Hid (T = false) := by show T = false; rw [← HT.out]; exact yy212 fun h => hlen (by rw [h])
  have g0 : ((l.length : Int) == (m.length : Int)) = false := xn (by omega)
  have g0' : ((l.length : Int) != (m.length : Int)) = true := bne_iff_ne.2 (by omega)
  clear hlen
  go_enter Tryd.func65, Tryd.ntmps65
  go_wp2
  go_ret
  exact ⟨by rw [HF.out]; rfl, Below.refl _ _⟩
def keepL (n : Int) : List CompV := if n < 1 then [] else [⟨1, n, []⟩]
set_option maxHeartbeats 2000000 in
set_option maxRecDepth 100000 in
theorem yy202 (a b : ActV) (ha : a.Good) (hb : b.Good) (w : World) (hA : yy7 w a.opsA a.ops) (hB : yy7 w b.opsA b.ops) :
  Calls Tryd.prog 42 #[.agg (yy1 a).toArray, .agg (yy1 b).toArray] w fun e w' => e = .returned (.bool (sameA a b)) ∧ Below w.heap.size w w' := by
 have GS := xh (fun w' (h : Below w.heap.size w w') => yy535 a.opsA b.opsA a.opsC b.opsC a.ops b.ops (by have := ha.2.2.2.2.2; unfold maxLen at *; omega) (by have := hb.2.2.2.2.2; unfold maxLen at *; omega) ha.2.2.2.2.1 hb.2.2.2.2.1 w' (hA.below h) (hB.below h))
 have hn := ha.2.2.2.1
 have hn2 := hb.2.2.2.1
 have hb2 := ((Below.refl w.heap.size w).alloc (Nat.le_refl _) (.cells (yy1 a).toArray 46)).alloc (by simp) (.cells (yy1 b).toArray 46)
 clear ha hb hA hB
 obtain ⟨k, i, p, n, d, A, c, o⟩ := a
 obtain ⟨k2, i2, p2, n2, d2, A2, c2, o2⟩ := b
 simp only at GS hn hn2
 by_cases h0 : k = k2
 ·subst h0
  by_cases h1 : i = i2
  ·subst h1
   by_cases h2 : p = p2
   ·subst h2
    by_cases h3 : n = n2
    ·subst h3
     by_cases h4 : d = d2
     ·subst h4
      rw [show sameA ⟨k, i, p, n, d, A, c, o⟩ ⟨k, i, p, n, d, A2, c2, o2⟩ = sameB o o2 from by
       by_cases h : o = o2
       ·rw [yy248 h]; exact yy192 (by simp [aKey, h])
       ·rw [yy212 h]; exact yy73 (fun e => h (by simpa [aKey] using e))]
      generalize sameB o o2 = T at GS
      have eT : (if T = true then T else false) = T := by cases T <;> rfl
      unfold yy1 at hb2 ⊢
      simp only at hb2
      go_enter Tryd.func42, Tryd.ntmps42
      go_wp2_with fail
      refine (GS.out _ hb2).mono ?_
      rintro e w2 ⟨rfl, hb3⟩
      go_wp2
      go_ret
      exact ⟨rfl, hb2.trans (hb3.mono hb2.size)⟩
     ·skip
      rw [yy73 fun e => h4 (by simp only [aKey, Prod.mk.injEq] at e; exact e.2.2.2.2.1)]
      have g : (d == d2) = false := xn h4
      clear h4 GS
      unfold yy1 at hb2 ⊢
      go_enter Tryd.func42, Tryd.ntmps42
      go_wp2
      go_ret
      exact ⟨rfl, hb2⟩
    ·skip
     rw [yy73 fun e => h3 (by simp only [aKey, Prod.mk.injEq] at e; exact e.2.2.2.1)]
     have g : ((bstr n).toList == (bstr n2).toList) = false := bstr_neq fun h => h3 (bstr_inj _ _ hn.1 hn2.1 h)
     clear h3 GS
     unfold yy1 at hb2 ⊢
     go_enter Tryd.func42, Tryd.ntmps42
     go_wp2
     go_ret
     exact ⟨rfl, hb2⟩
   ·skip
    rw [yy73 fun e => h2 (by simp only [aKey, Prod.mk.injEq] at e; exact e.2.2.1)]
    have g : (p == p2) = false := xn h2
    clear h2 GS
    unfold yy1 at hb2 ⊢
    go_enter Tryd.func42, Tryd.ntmps42
    go_wp2
    go_ret
    exact ⟨rfl, hb2⟩
  ·skip
   rw [yy73 fun e => h1 (by simp only [aKey, Prod.mk.injEq] at e; exact e.2.1)]
   have g : (i == i2) = false := xn h1
   clear h1 GS
   unfold yy1 at hb2 ⊢
   go_enter Tryd.func42, Tryd.ntmps42
   go_wp2
   go_ret
   exact ⟨rfl, hb2⟩
 ·skip
  rw [yy73 fun e => h0 (by simp only [aKey, Prod.mk.injEq] at e; exact e.1)]
  have g : (k == k2) = false := xn h0
  clear h0 GS
  unfold yy1 at hb2 ⊢
  go_enter Tryd.func42, Tryd.ntmps42
  go_wp2
  go_ret
  exact ⟨rfl, hb2⟩
end Go.Proofs.YtjpjdkdbgjipnaaDoor
