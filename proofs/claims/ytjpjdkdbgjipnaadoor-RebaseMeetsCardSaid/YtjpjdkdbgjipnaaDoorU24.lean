/- Rows of what was done, the program's, of the call's own: append. Condition: no more than 2^40 of them. (Merged of 9 texts.) -/
import Derived.Test.YtjpjdkdbgjipnaaDoorU37
import Derived.Laws.RangeString
import Derived.Laws.RangeAny
import Derived.Lib.DecodeN
import Derived.Test.YtjpjdkdbgjipnaaDoorU0
import Derived.Deep.OwnRows
import Derived.Deep.AppendLies
import Derived.Deep.DeepAppendWide
import Derived.Laws.OwnMore
namespace Go.Proofs.YtjpjdkdbgjipnaaDoor
open Go.RowKit Go.Deep
def wid : Option (Nat × List Nat) → Nat
 | some (v, _) => (enc v).length
 | none => 1
theorem yy476 (p : Prop) [Decidable p] (a b : Option (Nat × List Nat)) : wid (if p then a else b) = if p then wid a else wid b := by split <;> rfl
theorem yy332 : wid none = 1 := rfl
theorem yy333 (v : Nat) (r : List Nat) : wid (some (v, r)) = if v < 128 then 1 else if v < 2048 then 2 else if v < 65536 then 3 else 4 := yy179 v
theorem yy477 (l : List Nat) : yy64 l = wid (st l) := by
 unfold yy64
 cases st l with
 | none => rfl
 | some p => rfl
theorem yy478 (p : Prop) [Decidable p] (a b : Nat × Nat) : (if p then a else b).2 = if p then a.2 else b.2 := by split <;> rfl
set_option maxHeartbeats 4000000 in
theorem yy518 (c : Nat) (d e f : Nat) : yy64 [c] = (Lib.decodeN 1 c d e f).2 := by
 rw [yy477, yy58]
 simp only [yy55, yy308, yy476, yy332, yy333, Lib.decodeN, yy478]
 unfold May
 repeat' split
 all_goals omega
set_option maxHeartbeats 4000000 in
theorem yy519 (c d : Nat) (h : c < 256) (hd : d < 256) (e f : Nat) : yy64 [c, d] = (Lib.decodeN 2 c d e f).2 := by
 rw [yy477, yy58]
 simp only [yy71, yy55, yy308, yy476, yy332, yy333, Lib.decodeN, yy478]
 unfold May
 repeat' split
 all_goals omega
set_option maxHeartbeats 4000000 in
theorem yy520 (c d e : Nat) (h : c < 256) (f : Nat) : yy64 [c, d, e] = (Lib.decodeN 3 c d e f).2 := by
 rw [yy477, yy58]
 simp only [yy71, yy55, yy308, yy476, yy332, yy333, Lib.decodeN, yy478]
 unfold May
 repeat' split
 all_goals omega
set_option maxHeartbeats 8000000 in
theorem yy521 (c d e f : Nat) (t : List Nat) (h : c < 256) (n : Nat) (hn : 4 ≤ n) : yy64 (c :: d :: e :: f :: t) = (Lib.decodeN n c d e f).2 := by
 have n1 : (1 < n) = True := eq_true (by omega)
 have n2 : (2 < n) = True := eq_true (by omega)
 have n3 : (3 < n) = True := eq_true (by omega)
 rw [yy477, yy58]
 simp only [yy71, yy55, yy476, yy332, yy333, Lib.decodeN, yy478, n1, n2, n3, true_and]
 clear n1 n2 n3
 unfold May
 by_cases h1 : c < 128
 ·simp only [h1, if_true]
  repeat' split
  all_goals omega
 by_cases h2 : c < 192
 ·simp only [h1, h2, if_true, if_false, show ¬ c / 32 = 6 by omega, show ¬ c / 16 = 14 by omega, show ¬ c / 8 = 30 by omega, false_and]
 by_cases h3 : c < 224
 ·simp only [h1, h2, h3, if_true, if_false, show c / 32 = 6 by omega, true_and]
  by_cases d1 : d / 64 = 2
  ·simp only [d1, if_true]
   repeat' split
   all_goals omega
  ·simp only [d1, if_false, show ¬ c / 16 = 14 by omega, show ¬ c / 8 = 30 by omega, false_and]
 by_cases h4 : c < 240
 ·simp only [h1, h2, h3, h4, if_true, if_false, show ¬ c / 32 = 6 by omega, show c / 16 = 14 by omega, true_and, false_and]
  by_cases d1 : d / 64 = 2 <;> by_cases d2 : e / 64 = 2 <;> simp only [d1, d2, if_true, if_false, show ¬ c / 8 = 30 by omega, false_and, and_false, and_true]
  repeat' split
  all_goals omega
 by_cases h5 : c < 248
 ·simp only [h1, h2, h3, h4, h5, if_true, if_false, show ¬ c / 32 = 6 by omega, show ¬ c / 16 = 14 by omega, show c / 8 = 30 by omega, true_and, false_and]
  by_cases d1 : d / 64 = 2 <;> by_cases d2 : e / 64 = 2 <;> by_cases d3 : f / 64 = 2 <;> simp only [d1, d2, d3, if_true, if_false, and_false, and_true]
  repeat' split
  all_goals omega
 ·simp only [h1, h2, h3, h4, h5, if_false, show ¬ c / 32 = 6 by omega, show ¬ c / 16 = 14 by omega, show ¬ c / 8 = 30 by omega, false_and]
theorem yy790 (l : List Nat) (hb : ∀ x ∈ l, x < 256) (i c : Nat) (h : l[i]? = some c) : ((bstr l).get! i).toNat = c := by
 have hi : i < l.length := (List.getElem?_eq_some_iff.1 h).1
 have hc : l[i] = c := (List.getElem?_eq_some_iff.1 h).2
 have hlt := hb _ (List.getElem_mem hi)
 have e2 : (bstr l).data.toList[i]? = some (UInt8.ofNat l[i]) := by
  rw [yy114, List.getElem?_map, List.getElem?_eq_getElem hi]
  rfl
 have e3 : (bstr l).data[i]? = some (UInt8.ofNat l[i]) := by rw [← Array.getElem?_toList]; exact e2
 show ((bstr l).data[i]!).toNat = c
 rw [Array.getElem!_eq_getD, Array.getD_eq_getD_getElem?, e3, ← hc]
 simp
 omega
theorem yy581 (l : List Nat) (hb : ∀ x ∈ l, x < 256) (p : Nat) (hp : p < l.length) : (Utf8.decode (bstr l) p).2 = yy64 (l.drop p) := by
 rw [Lib.decode_at, bstr_size]
 have hlen : (l.drop p).length = l.length - p := List.length_drop
 have hg : ∀ k c, (l.drop p)[k]? = some c → ((bstr l).get! (p + k)).toNat = c ∧ c < 256 := fun k c h => by
  rw [List.getElem?_drop] at h
  exact ⟨yy790 l hb _ _ h, hb _ (List.mem_of_getElem? h)⟩
 generalize l.drop p = r at hlen hg
 rw [← hlen]
 match r, hg, hlen with
 | [], _, hlen => simp at hlen; omega
 | [c], hg, _ =>
  have h0 := hg 0 c rfl
  rw [Nat.add_zero] at h0
  rw [h0.1]
  exact (yy518 c _ _ _).symm
 | [c, d], hg, _ =>
  have h0 := hg 0 c rfl
  have h1 := hg 1 d rfl
  rw [Nat.add_zero] at h0
  rw [h0.1, h1.1]
  exact (yy519 c d h0.2 h1.2 _ _).symm
 | [c, d, e], hg, _ =>
  have h0 := hg 0 c rfl
  have h1 := hg 1 d rfl
  have h2 := hg 2 e rfl
  rw [Nat.add_zero] at h0
  rw [h0.1, h1.1, h2.1]
  exact (yy520 c d e h0.2 _).symm
 | c :: d :: e :: f :: t, hg, _ =>
  have h0 := hg 0 c rfl
  have h1 := hg 1 d rfl
  have h2 := hg 2 e rfl
  have h3 := hg 3 f rfl
  rw [Nat.add_zero] at h0
  rw [h0.1, h1.1, h2.1, h3.1]
  exact (yy521 c d e f t h0.2 _ (by simp)).symm
set_option maxHeartbeats 1000000 in
set_option maxRecDepth 100000 in
theorem yy681 (l : List Nat) (hb : ∀ x ∈ l, x < 256) (hl : l.length ≤ 1099511627776) (w : World) :
  Calls Tryd.prog 93 #[.string (bstr l)] w fun e w' => e = .returned (.int .i64 (loose l : Int)) ∧ Below w.heap.size w w' := by
 have hsz := bstr_size l
 have HB := xh hb; clear hb
 obtain ⟨T, HT⟩ : ∃ T, Hid (loose l = T) := ⟨_, xh rfl⟩
 have HTL : Hid (T ≤ l.length) := by show _ ≤ _; rw [← HT.out]; exact yy167 l
 rw [HT.out]
 go_enter Tryd.func93, Tryd.ntmps93
 go_wp2
 go_loopw [2] (fun n wr => ∃ p q : Nat, wr = w.iter (bstr l) p ∧ p ≤ l.length ∧ n = .int .i64 q ∧ q + loose (l.drop p) = T) (fun _ wr => l.length - wr.iterPos w.heap.size)
 case atStart => exact ⟨0, 0, rfl, Nat.zero_le _, rfl, by rw [Nat.zero_add]; exact HT.out⟩
 case round =>
  obtain ⟨p, q, rfl, hp, rfl, hq⟩ := hrel
  have HQ := xh hq; clear hq
  by_cases hlt : p < l.length
  ·have hnx : ∀ ty, (Instr.next (.pointer (some ⟨w.heap.size, 0, none⟩)) true ty).run Tryd.prog (w.iter (bstr l) p) = _ := fun ty => run_next_any w (bstr l) p ty (by rw [hsz]; exact hlt)
   have HW := xh (yy581 l HB.out p hlt)
   have hne : l.drop p ≠ [] := fun e => by have := congrArg List.length e; rw [List.length_drop] at this; simp at this; omega
   have hs1 := yy107 (l.drop p)
   have hs2 := yy254 hne
   rw [List.length_drop] at hs2
   have HN := xh (yy183 hne)
   rw [List.drop_drop] at HN
   clear hne
   obtain ⟨s, HS⟩ : ∃ s, Hid (yy64 (l.drop p) = s) := ⟨_, xh rfl⟩
   rw [HS.out] at hs1 hs2 HN HW
   have HQ2 : Hid (q + 1 + loose (l.drop (p + s)) = T) := by show _ = _; have := HQ.out; rw [HN.out] at this; omega
   have hqt : q < 1099511627776 := by have := HQ2.out; have := HTL.out; omega
   have hpl : p + s ≤ l.length := by omega
   rw [HW.out] at hnx
   generalize (Utf8.decode (bstr l) p).1 = v at hnx
   go_wp2
   go_roundw
   case rel => exact ⟨p + s, q + 1, rfl, hpl, by go_num, HQ2.out⟩
   case measure => simp; omega
  ·have hnx : ∀ ty, (Instr.next (.pointer (some ⟨w.heap.size, 0, none⟩)) true ty).run Tryd.prog (w.iter (bstr l) p) = _ := fun ty => run_next_end w (bstr l) p ty (by rw [hsz]; exact hlt)
   have HE : Hid (q = T) := by
    show q = T
    have := HQ.out
    rw [List.drop_eq_nil_of_le (by omega), yy236] at this
    omega
   go_wp2
   go_ret
   exact ⟨by rw [← HE.out]; rfl, (Below.refl _ _).alloc (Nat.le_refl _) _⟩
structure Only (g : Nat) (w w' : World) : Prop where
 os : w'.os = w.os
 tape : w'.tape = w.tape
 output : w'.output = w.output
 size : w.heap.size ≤ w'.heap.size
 block : ∀ k, k < w.heap.size → k ≠ g → w'.heap[k]? = w.heap[k]?
theorem Only.refl (g : Nat) (w : World) : Only g w w := ⟨rfl, rfl, rfl, Nat.le_refl _, fun _ _ _ => rfl⟩
theorem Only.trans {g : Nat} {a b c : World} (h : Only g a b) (k : Only g b c) : Only g a c :=
 ⟨k.os.trans h.os, k.tape.trans h.tape, k.output.trans h.output, Nat.le_trans h.size k.size, fun i hi hg => (k.block i (Nat.lt_of_lt_of_le hi h.size) hg).trans (h.block i hi hg)⟩
theorem Only.of_below {g : Nat} {w w' : World} (h : Below w.heap.size w w') : Only g w w' := ⟨h.os, h.tape, h.output, h.size, fun k hk _ => h.block k hk⟩
theorem Only.drew {g : Nat} {a w : World} (h : Only g a w) : Only g a w.drew := ⟨h.os, h.tape, h.output, h.size, h.block⟩
theorem Only.set {g : Nat} {a w : World} (h : Only g a w) (i : Nat) (v : Value) : Only g a (w.setCell ⟨g, i, none⟩ v) :=
 h.trans ⟨rfl, rfl, rfl, by simp [World.setCell], fun k _ hk => Below.heap_setCell _ _ _ _ hk⟩
theorem Only.below {g : Nat} {W w w' : World} (h : Only g w w') (hb : Below W.heap.size W w) (hg : W.heap.size ≤ g) : Below W.heap.size W w' :=
 hb.trans ⟨h.os, h.tape, h.output, h.size, fun k hk => h.block k (Nat.lt_of_lt_of_le hk hb.size) (by omega)⟩
theorem own_below {w w' : World} {base : Nat} {e : TypeId} {size : Nat} {v : Value} {n : Nat} {xs : List Value} (h : w.ownsRow base e size v n xs) (hb : Below w.heap.size w w') : w'.ownsRow base e size v n xs := by
 refine ⟨h.1, ?_⟩
 rcases h.2 with h2 | ⟨g', cap, cur, hv, hg, hh, h3, h4, h5⟩
 ·exact .inl h2
 ·have hlt : g' < w.heap.size := by
   rcases Nat.lt_or_ge g' w.heap.size with hlt | hge
   ·exact hlt
   ·rw [Array.getElem?_eq_none hge] at hh; cases hh
  exact .inr ⟨g', cap, cur, hv, hg, by rw [hb.block g' hlt]; exact hh, h3, h4, h5⟩
theorem yy417 {w w' : World} {base g : Nat} {e : TypeId} {size : Nat} {v : Value} {n : Nat} {xs : List Value} (h : w.ownsRow base e size v n xs) (ho : Only g w w') (hg : g < base) : w'.ownsRow base e size v n xs := by
 refine ⟨h.1, ?_⟩
 rcases h.2 with h2 | ⟨g', cap, cur, hv, hgb, hh, h3, h4, h5⟩
 ·exact .inl h2
 ·have hlt : g' < w.heap.size := by
   rcases Nat.lt_or_ge g' w.heap.size with hlt | hge
   ·exact hlt
   ·rw [Array.getElem?_eq_none hge] at hh; cases hh
  exact .inr ⟨g', cap, cur, hv, hgb, by rw [ho.block g' hlt (by omega)]; exact hh, h3, h4, h5⟩
theorem yy6.of_own {w : World} {base : Nat} {e : TypeId} {size : Nat} {A : Option Addr} {n c : Nat} {xs : List Value} (h : w.ownsRow base e size (.slice A n c) n xs) : yy6 w A xs := by
 by_cases h0 : n = 0
 ·subst h0
  exact .inl (List.eq_nil_of_length_eq_zero (by rw [h.1, Nat.zero_mul]))
 ·obtain ⟨g, cap, hv, _, hlt⟩ := h.form (by omega)
  injection hv with h1 h2 h3
  subst h1
  subst h3
  refine .inr ⟨g, 0, rfl, hlt, fun j x hx => ?_⟩
  have := h.cells (g := g) rfl j x hx
  rw [Nat.zero_add]
  rw [Go.WideShapes.add_plain, Nat.zero_add] at this
  exact this
theorem yy33 {w : World} {base base' : Nat} {e : TypeId} {size : Nat} {v : Value} {n : Nat} {xs : List Value} (h : w.ownsRow base e size v n xs) (hb : base' ≤ base) : w.ownsRow base' e size v n xs := by
 refine ⟨h.1, ?_⟩
 rcases h.2 with h2 | ⟨g', cap, cur, hv, hgb, hh, h3, h4, h5⟩
 ·exact .inl h2
 ·exact .inr ⟨g', cap, cur, hv, by omega, hh, h3, h4, h5⟩
theorem yy237 {w w' : World} {base base2 : Nat} {e e2 : TypeId} {size size2 : Nat} {v v2 : Value} {n n2 : Nat} {xs xs2 : List Value} (h : w.ownsRow base e size v n xs) (h2 : w.ownsRow base2 e2 size2 v2 n2 xs2) (he : e ≠ e2) (hg : w.grownBy w' v2.ownBlock) : w'.ownsRow base e size v n xs := by
 refine ⟨h.1, ?_⟩
 rcases h.2 with h0 | ⟨g', cap, cur, hv, hgb, hh, h3, h4, h5⟩
 ·exact .inl h0
 ·have hlt : g' < w.heap.size := by
   rcases Nat.lt_or_ge g' w.heap.size with hlt | hge
   ·exact hlt
   ·rw [Array.getElem?_eq_none hge] at hh; cases hh
  refine .inr ⟨g', cap, cur, hv, hgb, ?_, h3, h4, h5⟩
  rw [hg.block g' hlt ?_]
  ·exact hh
  ·intro e0
   rcases h2.2 with ⟨rfl, _⟩ | ⟨g2, cap2, cur2, rfl, _, hh2, _⟩
   ·simp [Value.ownBlock] at e0
   ·simp [Value.ownBlock] at e0
    subst e0
    rw [hh] at hh2
    injection hh2 with hh2
    injection hh2 with _ hh2
    exact he hh2
theorem yy851 {w : World} {base : Nat} {e : TypeId} {size : Nat} {v : Value} {n : Nat} {xs : List Value} (h : w.ownsRow base e size v n xs) : n ≤ maxLen := by
 rcases h.2 with ⟨_, h0⟩ | ⟨_, _, _, _, _, _, h1, h2, _⟩
 ·rw [h0]; exact Nat.zero_le _
 ·exact Nat.le_trans h1 h2
theorem yy335 : (Tryd.prog.info? 51).map (fun i => (i.zero, i.size, i.bytes)) = some (some (.agg #[.int .i64 0, .int .i64 0, .string { data := #[] }]), 3, 32) := by kernel_rfl
theorem yy187 : Tryd.prog.elem 40 = 51 := by kernel_rfl
theorem yy480 (w : World) : (sizeOf 51).run Tryd.prog w = .ok 3 w := Tryd.sizeOf51 w
theorem yy374 {w : World} {A : Option Addr} {x : CompV} {l : List CompV} {c : Nat} (h : yy7 w A (x :: l)) (hc : (x :: l).length ≤ c) :
  ∃ b off A', A = some ⟨b, off, none⟩ ∧ b < w.heap.size ∧ w.cell? ⟨b, off, none⟩ = some (.int .i64 x.kind) ∧ w.cell? ⟨b, off + 1, none⟩ = some (.int .i64 x.n) ∧ w.cell? ⟨b, off + 2, none⟩ = some (.string (bstr x.text)) ∧
   (∀ w, (Instr.slice 40 (.slice (some ⟨b, off, none⟩) (l.length + 1) c) (some (.int .i64 1)) none none).run Tryd.prog w = .ok (.slice A' l.length (c - 1)) w) ∧ yy7 w A' l ∧ l.length ≤ c - 1 := by
 obtain ⟨b, off, rfl, hb⟩ := h.form (by simp)
 obtain ⟨h0, h1, h2⟩ := h.at_ (i := 0) (by simp)
 simp only [Nat.zero_mul, Nat.add_zero, List.getElem_cons_zero] at h0 h1 h2
 have hc' : l.length + 1 ≤ c := by simpa using hc
 refine ⟨b, off, (if c = 1 then some ⟨b, off, none⟩ else some ⟨b, off + 3, none⟩), rfl, hb, h0, h1, h2, fun w => ?_, ?_, by omega⟩
 ·rw [run_slice_l (P := Tryd.prog) (w := w) 40 (some ⟨b, off, none⟩) (l.length + 1) c (by rw [yy187]; exact Tryd.underlying40) .i64 (1 : Int) (by omega) (by omega), yy187, yy480]
  simp [Result.andThen, sliced]
  try (split <;> simp [Go.WideShapes.add_plain])
 ·by_cases hl : l = []
  ·rw [hl]; exact .inl rfl
  ·have hl0 : 0 < l.length := List.length_pos_iff.2 hl
   rw [if_neg (by omega)]
   rcases h with h | ⟨b', off', e, hlt, hcc⟩
   ·exact absurd (congrArg List.length h) (by simp [yy5])
   ·injection e with e
    injection e with e1 e2
    subst e1 e2
    refine .inr ⟨b, off + 3, rfl, hlt, fun j v hj => ?_⟩
    have := hcc (3 + j) v (by rw [List.flatMap_cons, List.getElem?_append_right (by simp [yy5])]; simpa [yy5] using hj)
    rwa [← Nat.add_assoc] at this
set_option maxRecDepth 100000 in
theorem yy793 {o : Oper} {a : Act} {w : World} {K : Act → World → Prop} {Q : Exit → Act → World → Prop} (s x : Operand)
  (ho : o.op = .call { callee := .builtin .append, args := #[s, x], argTypes := #[40, 40] })
  (base : Nat) (v : Value) (out l : List CompV) (hs : a.eval s = v) (hown : w.ownsRow base 51 3 v out.length (out.flatMap yy5)) (hsz : base ≤ w.heap.size)
  (A : Option Addr) (c : Nat) (hx : a.eval x = .slice A l.length c) (hA : yy7 w A l) (hnil : A = none → l = [] ∧ c = 0) (hlen : out.length + l.length ≤ 1099511627776)
  (h : ∀ out' A' c' w', out' = out ++ l → w'.ownsRow base 51 3 (.slice A' out'.length c') out'.length (out'.flatMap yy5) → Below base w w' → K (a.put o.dst (.slice A' out'.length c')) w') :
  o.wp Tryd.prog a w K Q := by
 obtain ⟨i0, hi0, hz0, hz1, hz2⟩ := info_parts yy335
 cases A with
 | none =>
  obtain ⟨rfl, rfl⟩ := hnil rfl
  have hr := run_append_owned_none (P := Tryd.prog) (w := w) base 40 o.type 51 i0 3 Tryd.underlying40 hi0 v out.length _ hown
  obtain ⟨A', c', rfl⟩ := own_slice hown
  unfold Oper.wp execOp
  simp only [ho, resolve, invoke, builtin, Sem.run_bind, Sem.run_pure, Result.andThen_ok, List.map_toArray, List.map_cons, List.map_nil, hs, hx, List.length_nil, hr]
  exact h out A' c' w (by simp) hown (Below.refl _ _)
 | some ad =>
  refine wp_append_own_wide w s x 40 ho base 51 i0 (.agg #[.int .i64 0, .int .i64 0, .string { data := #[] }]) 3 32 Tryd.underlying40 hi0 hz0 hz1 hz2 rfl (by omega) v out.length (out.flatMap yy5) hs hown ad l.length c (l.flatMap yy5) hx (yy29 yy5 3 yy47 l) ?_ ?_ (by simp only [maxLen]; omega) (by omega) hsz ?_
  ·intro j u hj
   rcases hA with hA | ⟨b, off, e, _, hc⟩
   ·rw [hA] at hj; simp at hj
   ·injection e with e
    subst e
    rw [Go.WideShapes.add_plain]
    exact hc j u hj
  ·intro u hu
   obtain ⟨y, _, hy⟩ := List.mem_flatMap.1 hu
   simp [yy5] at hy
   rcases hy with rfl | rfl | rfl <;> rfl
  intro v' w' hown' hgr _
  have e : out.flatMap yy5 ++ l.flatMap yy5 = (out ++ l).flatMap yy5 := by simp
  have hown2 : w'.ownsRow base 51 3 v' (out ++ l).length ((out ++ l).flatMap yy5) := by
   rw [← e, List.length_append]
   exact hown'
  obtain ⟨A', c', rfl⟩ := own_slice hown2
  exact h _ A' c' w' rfl hown2 ((Below.refl base w).grown hgr hsz (fun k hk => (hown.lt k hk).1))
theorem yy82 {ops : Array Oper} {rest : List Oper} {o : Oper} {a : Act} {w : World} {Q : Exit → Act → World → Prop} (hgd : o.guard = none) (s x : Operand)
  (ho : o.op = .call { callee := .builtin .append, args := #[s, x], argTypes := #[40, 40] })
  (base : Nat) (v : Value) (out : List CompV) (cr : CompV) (hs : a.eval s = v) (hown : w.ownsRow base 51 3 v out.length (out.flatMap yy5)) (hsz : base ≤ w.heap.size)
  (hx : a.eval x = .slice (some ⟨w.heap.size, 0, none⟩) 1 1) (hlen : out.length ≤ 1099511627776)
  (h : ∀ out' A' c' w', out' = out ++ [cr] → w'.ownsRow base 51 3 (.slice A' out'.length c') out'.length (out'.flatMap yy5) → Below base w w' → wpList Tryd.prog ops Q rest (a.put o.dst (.slice A' out'.length c')) w') :
  wpList Tryd.prog ops Q (o :: rest) a (w.alloc (.cells #[.int .i64 cr.kind, .int .i64 cr.n, .string (bstr cr.text)] 51)) := by
 obtain ⟨i0, hi0, hz0, hz1, hz2⟩ := info_parts yy335
 refine wpList_append_own_wide _ hgd s x 40 ho base 51 i0 (.agg #[.int .i64 0, .int .i64 0, .string { data := #[] }]) 3 32 Tryd.underlying40 hi0 hz0 hz1 hz2 rfl (by omega) v out.length (out.flatMap yy5) hs (hown.alloc _) ⟨w.heap.size, 0, none⟩ 1 1 (yy5 cr) hx rfl ?_ ?_ (by simp only [maxLen]; omega) (by omega) (by simp; omega) ?_
 ·intro j u hj
  rw [Go.WideShapes.add_plain, Nat.zero_add, cell_of_row _ _ _ _ _ _ (heap_alloc_new w _)]
  simpa [yy5] using hj
 ·intro u hu; simp [yy5] at hu; rcases hu with rfl | rfl | rfl <;> rfl
 intro v' w' hown' hgr _
 have e : out.flatMap yy5 ++ yy5 cr = (out ++ [cr]).flatMap yy5 := by simp
 have hown2 : w'.ownsRow base 51 3 v' (out ++ [cr]).length ((out ++ [cr]).flatMap yy5) := by
  rw [← e, List.length_append]
  exact hown'
 obtain ⟨A', c', rfl⟩ := own_slice hown2
 exact h _ A' c' w' rfl hown2 (((Below.refl base w).alloc hsz _).grown hgr (by simp; omega) (fun k hk => (hown.lt k hk).1))
def intCells (y : Int) : List Value := [.int .i64 y]
theorem yy105 (y : Int) : (intCells y).length = 1 := rfl
def NumsAt (w : World) (A : Option Addr) (l : List (Int)) : Prop := yy6 w A (l.flatMap intCells)
theorem NumsAt.below {w w' : World} {A : Option Addr} {l : List (Int)} (h : NumsAt w A l) (hb : Below w.heap.size w w') : NumsAt w' A l := yy6.below h hb
theorem NumsAt.drew {w : World} {A : Option Addr} {l : List (Int)} (h : NumsAt w A l) : NumsAt w.drew A l := yy6.drew h
theorem NumsAt.form {w : World} {A : Option Addr} {l : List (Int)} (h : NumsAt w A l) (h0 : 0 < l.length) : ∃ b off, A = some ⟨b, off, none⟩ ∧ b < w.heap.size :=
 yy6.form h (by intro e; have h1 := yy29 intCells 1 yy105 l; rw [e, List.length_nil] at h1; omega)
theorem NumsAt.get {w : World} {b off : Nat} {l : List (Int)} (h : NumsAt w (some ⟨b, off, none⟩) l) {i : Nat} (hi : i < l.length) : w.cell? ⟨b, off + i, none⟩ = some (.int .i64 l[i]) := by
 have := yy6.cell h (j := i * 1 + 0) (by rw [flat_get intCells 1 yy105 l i hi 0 (by omega)]; rfl)
 simpa using this
theorem yy860 : (Tryd.prog.info? 3).map (fun i => (i.zero, i.size, i.bytes)) = some (some (.int .i64 0), 1, 8) := by kernel_rfl
def OwnK (w : World) (B : Nat) (A : Option Addr) (c : Nat) (l : List (Int)) : Prop := w.ownsRow B 3 1 (.slice A l.length c) l.length (l.flatMap intCells)
theorem yy861 (l : List (Int)) : ∀ u ∈ l.flatMap intCells, u.oneCell' = true := by
 intro u hu
 obtain ⟨y, _, hy⟩ := List.mem_flatMap.1 hu
 simp [intCells] at hy
 subst hy
 rfl
theorem OwnK.at_ {w : World} {B c : Nat} {A : Option Addr} {l : List (Int)} (h : OwnK w B A c l) : NumsAt w A l := yy6.of_own h
theorem OwnK.cap {w : World} {B c : Nat} {A : Option Addr} {l : List (Int)} (h : OwnK w B A c l) : l.length ≤ c := by
 rcases h.2 with ⟨e, h0⟩ | ⟨g, cap, cur, e, _, _, hn, _⟩
 ·omega
 ·injection e with _ _ e
  omega
theorem OwnK.empty (w : World) {B : Nat} (h : B ≤ w.heap.size) : OwnK (w.alloc (.cells #[] 3)) B (some ⟨w.heap.size, 0, none⟩) 0 [] := World.ownsRow_lit w #[] 0 h (by simp [maxLen]) rfl
theorem OwnK.nil (w : World) (B : Nat) : OwnK w B none 0 [] := World.ownsRow_nil _ _ _ _
theorem OwnK.alloc {w : World} {B c : Nat} {A : Option Addr} {l : List (Int)} (h : OwnK w B A c l) (o : Obj) : OwnK (w.alloc o) B A c l := World.ownsRow.alloc h o
theorem OwnK.below {w w' : World} {B c : Nat} {A : Option Addr} {l : List (Int)} (h : OwnK w B A c l) (hb : Below w.heap.size w w') : OwnK w' B A c l := own_below h hb
theorem yy302 {w : World} (base : Nat) (t ty e : TypeId) (i : TypeInfo) (size : Nat) (ht : Tryd.prog.underlying t = some (.slice e)) (hi : Tryd.prog.info? e = some i) (v : Value) (n : Nat) (xs : List Value) (c : Nat) (hown : w.ownsRow base e size v n xs) :
  (Builtin.append_ #[t, t] ty #[v, .slice none 0 c]).run Tryd.prog w = .ok v w := by
 rcases hown.2 with ⟨rfl, rfl⟩ | ⟨g, cap, cur, rfl, _, _, hnc, _⟩
 ·simp [Builtin.append_, run_underlying ht, sizeOf, typeInfo, hi, Builtin.lenOf, Builtin.firstCells]
 ·simp [Builtin.append_, run_underlying ht, sizeOf, typeInfo, hi, Builtin.lenOf, Builtin.firstCells, hnc, storeCells]
set_option maxRecDepth 100000 in
theorem yy228 {w : World} {B c0 : Nat} {A0 : Option Addr} {out : List (Int)} (hown : OwnK w B A0 c0 out) (hB : B ≤ w.heap.size) {A : Option Addr} {m : List (Int)} (c : Nat) (hA : NumsAt w A m) (hlen : out.length + m.length ≤ 1099511627776) (ty : TypeId) :
  ∃ A' c' w', (Builtin.append_ #[30, 30] ty #[.slice A0 out.length c0, .slice A m.length c]).run Tryd.prog w = .ok (.slice A' (out ++ m).length c') w' ∧ OwnK w' B A' c' (out ++ m) ∧ Below B w w' ∧ ∀ (g : Nat) (l : List (Int)), g < w.heap.size → (∀ b, A0 = some b → b.block ≠ g) → NumsAt w (some ⟨g, 0, none⟩) l → NumsAt w' (some ⟨g, 0, none⟩) l := by
 obtain ⟨i0, hi0, hz0, hz1, hz2⟩ := info_parts yy860
 cases A with
 | none =>
  have hm : m = [] := by
   cases m with
   | nil => rfl
   | cons y m =>
    obtain ⟨b, off, e, _⟩ := hA.form (by simp)
    cases e
  subst hm
  refine ⟨A0, c0, w, ?_, ?_, Below.refl _ _, fun _ _ _ _ h => h⟩
  ·rw [List.append_nil]
   exact yy302 B _ ty _ i0 1 Tryd.underlying30 hi0 _ _ _ c hown
  ·rw [List.append_nil]
   exact hown
 | some ad =>
  obtain ⟨v', w', hr, h2, h3, _⟩ := run_append_own_wide (P := Tryd.prog) w B 30 ty 3 i0 (.int .i64 0) 1 8 Tryd.underlying30 hi0 hz0 hz1 hz2 rfl (by omega)
   _ out.length (out.flatMap intCells) hown ad m.length c (m.flatMap intCells) (yy29 intCells 1 yy105 m) (fun j u hu => by
    rcases hA with h0 | ⟨b, off, e, _, hc⟩
    ·rw [h0] at hu; cases hu
    ·injection e with e
     subst e
     rw [Go.WideShapes.add_plain]
     exact hc j u hu) (yy861 m) (by simp only [maxLen]; omega) (by omega) hB
  have e : out.flatMap intCells ++ m.flatMap intCells = (out ++ m).flatMap intCells := List.flatMap_append.symm
  rw [e, ← List.length_append] at h2
  obtain ⟨A', c', rfl⟩ := own_slice h2
  refine ⟨A', c', w', hr, h2, (Below.refl B w).grown h3 hB (fun k hk => (hown.lt k hk).1), fun g l hg hne h => ?_⟩
  rcases h with h | ⟨b, off, e, hlt, hc⟩
  ·exact .inl h
  ·injection e with e
   injection e with e1 e2
   subst e1 e2
   refine .inr ⟨g, 0, rfl, Nat.lt_of_lt_of_le hlt h3.size, fun j v hj => (h3.cell_far ⟨g, 0 + j, none⟩ hlt ?_).trans (hc j v hj)⟩
   cases A0 with
   | none => intro e; cases e
   | some a =>
    intro e
    injection e with e
    exact hne a rfl e.symm
theorem yy433 {w : World} {B c0 : Nat} {A0 : Option Addr} {out : List (Int)} (hown : OwnK w B A0 c0 out) (hB : B ≤ w.heap.size) {A : Option Addr} {m : List (Int)} (c : Nat) (hA : NumsAt w A m) (hlen : out.length + m.length ≤ 1099511627776) (ty : TypeId) :
  ∃ A' c' w', (Builtin.append_ #[30, 30] ty #[.slice A0 out.length c0, .slice A m.length c]).run Tryd.prog w = .ok (.slice A' (out ++ m).length c') w' ∧ OwnK w' B A' c' (out ++ m) ∧ Below B w w' := by
 obtain ⟨A', c', w', h1, h2, h3, _⟩ := yy228 hown hB c hA hlen ty
 exact ⟨A', c', w', h1, h2, h3⟩
theorem yy532 {w : World} {o : Oper} {a : Act} {K : Act → World → Prop} {Q : Exit → Act → World → Prop} (s x : Operand)
  (ho : o.op = .call { callee := .builtin .append, args := #[s, x], argTypes := #[30, 30] })
  {B c0 : Nat} {A0 : Option Addr} {out : List (Int)} (hown : OwnK w B A0 c0 out) (hB : B ≤ w.heap.size) {A : Option Addr} {m : List (Int)} (c : Nat) (hA : NumsAt w A m) (hlen : out.length + m.length ≤ 1099511627776)
  (hs : a.eval s = .slice A0 out.length c0) (hx : a.eval x = .slice A m.length c)
  (hK : ∀ A' c' w', OwnK w' B A' c' (out ++ m) → Below B w w' → K (a.put o.dst (.slice A' (out ++ m).length c')) w') : o.wp Tryd.prog a w K Q := by
 obtain ⟨A', c', w', hrun, h1, h2⟩ := yy433 hown hB c hA hlen o.type
 unfold Oper.wp execOp
 simp only [ho, resolve, invoke, builtin, Sem.run_bind, Sem.run_pure, Result.andThen_ok, List.map_toArray, List.map_cons, List.map_nil, hs, hx, hrun]
 exact hK A' c' w' h1 h2
theorem yy25 {w : World} {o : Oper} {a : Act} {K : Act → World → Prop} {Q : Exit → Act → World → Prop} (s x : Operand)
  (ho : o.op = .call { callee := .builtin .append, args := #[s, x], argTypes := #[30, 30] })
  {B c0 : Nat} {A0 : Option Addr} {out : List (Int)} (hown : OwnK w B A0 c0 out) (hB : B ≤ w.heap.size) {A : Option Addr} {m : List (Int)} (c : Nat) (hA : NumsAt w A m) (hlen : out.length + m.length ≤ 1099511627776)
  (hs : a.eval s = .slice A0 out.length c0) (hx : a.eval x = .slice A m.length c)
  (hK : ∀ A' c' w', OwnK w' B A' c' (out ++ m) → Below B w w' → (∀ (g : Nat) (l : List (Int)), g < w.heap.size → (∀ b, A0 = some b → b.block ≠ g) → NumsAt w (some ⟨g, 0, none⟩) l → NumsAt w' (some ⟨g, 0, none⟩) l) → K (a.put o.dst (.slice A' (out ++ m).length c')) w') : o.wp Tryd.prog a w K Q := by
 obtain ⟨A', c', w', hrun, h1, h2, h3⟩ := yy228 hown hB c hA hlen o.type
 unfold Oper.wp execOp
 simp only [ho, resolve, invoke, builtin, Sem.run_bind, Sem.run_pure, Result.andThen_ok, List.map_toArray, List.map_cons, List.map_nil, hs, hx, hrun]
 exact hK A' c' w' h1 h2 h3
theorem yy303 {w : World} {ops : Array Oper} {rest : List Oper} {o : Oper} {a : Act} {Q : Exit → Act → World → Prop} (hgd : o.guard = none) (s x : Operand)
  (ho : o.op = .call { callee := .builtin .append, args := #[s, x], argTypes := #[30, 30] })
  {B c0 : Nat} {A0 : Option Addr} {out : List (Int)} (hown : OwnK w B A0 c0 out) (hB : B ≤ w.heap.size) {A : Option Addr} {m : List (Int)} (c : Nat) (hA : NumsAt w A m) (hlen : out.length + m.length ≤ 1099511627776)
  (hs : a.eval s = .slice A0 out.length c0) (hx : a.eval x = .slice A m.length c)
  (h : ∀ A' c' w', OwnK w' B A' c' (out ++ m) → Below B w w' → wpList Tryd.prog ops Q rest (a.put o.dst (.slice A' (out ++ m).length c')) w') : wpList Tryd.prog ops Q (o :: rest) a w :=
 wpList_plain hgd fun _ hK => yy532 s x ho hown hB c hA hlen hs hx fun A' c' w' h1 h2 => hK _ _ (h A' c' w' h1 h2)
theorem yy277 (x : World) (n : Int) (g : Nat) (hg : g = x.heap.size) : NumsAt (x.alloc (.cells (intCells n).toArray 3)) (some ⟨g, 0, none⟩) [n] := by
 subst hg
 refine .inr ⟨_, 0, rfl, by simp, fun j v hj => ?_⟩
 rw [cell_of_row _ _ _ _ _ _ (heap_alloc_new x _)]
 simpa using hj
theorem yy243 : Tryd.prog.elem 30 = 3 := by kernel_rfl
theorem yy490 (w : World) : (sizeOf 3).run Tryd.prog w = .ok 1 w := Tryd.sizeOf3 w
def yy134 (A : Option Addr) (c : Nat) : Option Addr := if c = 0 then A else A.map (·.add (0 * 1))
def numLow (A : Option Addr) (k c : Nat) : Option Addr := if c = k then A else A.map (·.add (k * 1))
theorem yy316 (A : Option Addr) (n c k : Nat) (hk : k ≤ c) (w : World) : (Instr.slice 30 (.slice A n c) none (some (.int .i64 (k : Int))) none).run Tryd.prog w = .ok (.slice (yy134 A c) k c) w := by
 rw [run_slice_h (P := Tryd.prog) (w := w) 30 A n c (by rw [yy243]; exact Tryd.underlying30) .i64 (k : Int) (by omega) (by omega), yy243, yy490]
 simp [Result.andThen, sliced, yy134]
theorem yy388 (A : Option Addr) (n c k : Nat) (hk : k ≤ n) (w : World) : (Instr.slice 30 (.slice A n c) (some (.int .i64 (k : Int))) none none).run Tryd.prog w = .ok (.slice (numLow A k c) (n - k) (c - k)) w := by
 rw [run_slice_l (P := Tryd.prog) (w := w) 30 A n c (by rw [yy243]; exact Tryd.underlying30) .i64 (k : Int) (by omega) (by omega), yy243, yy490]
 simp [Result.andThen, sliced, numLow]
theorem yy317 (l : List (Int)) (k : Nat) : (l.take k).flatMap intCells = (l.flatMap intCells).take (k * 1) := by
 induction l generalizing k with
 | nil => simp
 | cons y l ih =>
  cases k with
  | zero => simp
  | succ k =>
   have e5 : (k + 1) * 1 = (intCells y).length + k * 1 := by
    rw [show (intCells y).length = 1 from rfl]
    omega
   rw [List.take_succ_cons, List.flatMap_cons, List.flatMap_cons, ih, e5, List.take_length_add_append]
theorem yy318 (l : List (Int)) (k : Nat) : (l.drop k).flatMap intCells = (l.flatMap intCells).drop (k * 1) := by
 induction l generalizing k with
 | nil => simp
 | cons y l ih =>
  cases k with
  | zero => simp
  | succ k =>
   have e5 : (k + 1) * 1 = (intCells y).length + k * 1 := by
    rw [show (intCells y).length = 1 from rfl]
    omega
   rw [List.drop_succ_cons, List.flatMap_cons, ih, e5, List.drop_length_add_append]
theorem NumsAt.high {w : World} {A : Option Addr} {l : List (Int)} (h : NumsAt w A l) (c k : Nat) : NumsAt w (yy134 A c) (l.take k) := by
 have ht : NumsAt w A (l.take k) := by
  rcases h with h | ⟨b, off, rfl, hlt, hc⟩
  ·left; rw [yy317, h]; simp
  ·right
   refine ⟨b, off, rfl, hlt, fun j v hj => hc j v ?_⟩
   rw [yy317, List.getElem?_take] at hj
   split at hj
   ·exact hj
   ·cases hj
 unfold yy134
 split
 ·exact ht
 ·rcases ht with h | ⟨b, off, rfl, hlt, hc⟩
  ·exact .inl h
  ·have e : (some (⟨b, off, none⟩ : Addr)).map (·.add (0 * 1)) = some ⟨b, off, none⟩ := rfl
   rw [e]
   exact .inr ⟨b, off, rfl, hlt, hc⟩
theorem NumsAt.low {w : World} {A : Option Addr} {l : List (Int)} (h : NumsAt w A l) (c k : Nat) (hc : l.length ≤ c) : NumsAt w (numLow A k c) (l.drop k) := by
 unfold numLow
 split
 ·left; rw [List.drop_eq_nil_of_le (by omega)]; rfl
 ·rcases h with h | ⟨b, off, rfl, hlt, hcc⟩
  ·left; rw [yy318, h]; simp
  ·have e : (some (⟨b, off, none⟩ : Addr)).map (·.add (k * 1)) = some ⟨b, off + k * 1, none⟩ := by
    show some ((⟨b, off, none⟩ : Addr).add (k * 1)) = _
    rw [Go.WideShapes.add_plain]
   rw [e]
   right
   refine ⟨b, off + k * 1, rfl, hlt, fun j v hj => ?_⟩
   rw [yy318, List.getElem?_drop] at hj
   rw [Nat.add_assoc]
   exact hcc _ v hj
attribute [irreducible] yy134 numLow
def OneRow (w : World) (A : Option Addr) (l : List OneV) : Prop := yy6 w A (l.flatMap yy10)
theorem yy825 : (Tryd.prog.info? 48).map (fun i => (i.zero, i.size, i.bytes)) = some (some (.agg #[.int .i64 0, .slice none 0 0, .bool false, .bool false, .bool false, .bool false, .int .i64 0, .string { data := #[] }]), 8, 64) := by kernel_rfl
def OwnE (w : World) (B : Nat) (A : Option Addr) (c : Nat) (l : List OneV) : Prop := w.ownsRow B 48 8 (.slice A l.length c) l.length (l.flatMap yy10)
theorem yy826 (l : List OneV) : ∀ u ∈ l.flatMap yy10, u.oneCell' = true := by
 intro u hu
 obtain ⟨y, _, hy⟩ := List.mem_flatMap.1 hu
 simp [yy10] at hy
 rcases hy with rfl | rfl | rfl | rfl | rfl | rfl | rfl | rfl <;> rfl
theorem OwnE.at_ {w : World} {B c : Nat} {A : Option Addr} {l : List OneV} (h : OwnE w B A c l) : OneRow w A l := yy6.of_own h
theorem OwnE.cap {w : World} {B c : Nat} {A : Option Addr} {l : List OneV} (h : OwnE w B A c l) : l.length ≤ c := by
 rcases h.2 with ⟨e, h0⟩ | ⟨g, cap, cur, e, _, _, hn, _⟩
 ·omega
 ·injection e with _ _ e
  omega
theorem OwnE.nil (w : World) (B : Nat) : OwnE w B none 0 [] := World.ownsRow_nil _ _ _ _
theorem OwnE.below {w w' : World} {B c : Nat} {A : Option Addr} {l : List OneV} (h : OwnE w B A c l) (hb : Below w.heap.size w w') : OwnE w' B A c l := own_below h hb
theorem yy292 (x : World) (n : OneV) (g : Nat) (hg : g = x.heap.size) : OneRow (x.alloc (.cells (yy10 n).toArray 48)) (some ⟨g, 0, none⟩) [n] := by
 subst hg
 refine .inr ⟨_, 0, rfl, by simp, fun j v hj => ?_⟩
 rw [cell_of_row _ _ _ _ _ _ (heap_alloc_new x _)]
 simpa using hj
end Go.Proofs.YtjpjdkdbgjipnaaDoor
