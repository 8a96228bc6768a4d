/- The model's own reading of a text at one of its places: the code point there, and how many bytes it has. No condition. (Merged of 14 texts.) -/
import Derived.Test.YtjpjdkdbgjipnaaDoorV6
import Derived.Deep.OwnRows
import Derived.Test.YtjpjdkdbgjipnaaDoorV45
import Derived.Test.YtjpjdkdbgjipnaaDoorShelf
import Derived.Test.YtjpjdkdbgjipnaaDoorV22
import Derived.Test.YtjpjdkdbgjipnaaDoorV44
import Derived.Test.YtjpjdkdbgjipnaaDoorV47
import Derived.Test.YtjpjdkdbgjipnaaDoorV7
import Derived.Scope
import Derived.Test.YtjpjdkdbgjipnaaDoorV21
import Derived.Test.YtjpjdkdbgjipnaaDoorV2
import Derived.Test.YtjpjdkdbgjipnaaDoorV12
import Derived.Test.YtjpjdkdbgjipnaaDoorV13
namespace Go.Proofs.YtjpjdkdbgjipnaaDoor
open Go.RowKit Go.Deep
theorem yy61 (s : ByteArray) (w : World) (hlim : s.size ≤ 281474976710656) :
  Calls Tryd.prog 63 #[.string s] w fun e w' => e = .returned (.string s) ∧ Below w.heap.size w w' := by
 have HC := xh (Tryd.stringslite_Clone s w hlim)
 go_enter Tryd.func63, Tryd.ntmps63
 go_wp2_with fail
 refine HC.out.mono ?_
 rintro e w' ⟨rfl, hbel⟩
 go_wp2
 go_ret
 exact ⟨rfl, hbel⟩
set_option maxHeartbeats 2000000 in
set_option maxRecDepth 100000 in
theorem yy319 (A : Option Addr) (ca : Nat) (l : List CompV) (hlen : l.length ≤ 1099511627776) (hf : ∀ y ∈ l, y.text.length ≤ 1099511627776) (w : World) (hA : yy6 w A l) :
  Calls Tryd.prog 64 #[.slice A l.length ca] w fun e w' => (∃ A' c', e = .returned (.slice A' l.length c') ∧ w'.ownsRow w.heap.size 51 3 (.slice A' l.length c') l.length (l.flatMap yy2)) ∧ Below w.heap.size w w' := by
 have HA := xh hA
 have HF := xh hf
 clear hA hf
 go_enter Tryd.func64, Tryd.ntmps64
 go_wp2
 go_loopw [3, 5, 8] (fun o p i wr => ∃ (k : Nat) (A0 : Option Addr) (c0 : Nat), k ≤ l.length ∧ i = .int .i64 k ∧ o = .slice A0 (l.take k).length c0 ∧ wr.ownsRow w.heap.size 51 3 (.slice A0 (l.take k).length c0) (l.take k).length ((l.take k).flatMap yy2) ∧ Below w.heap.size w wr) (fun _ _ i _ => l.length - (intOf i).toNat)
 case atStart => exact ⟨0, none, 0, Nat.zero_le _, rfl, rfl, World.ownsRow_nil _ _ _ _, Below.refl _ _⟩
 case round =>
  obtain ⟨k, A0, c0, hk, rfl, rfl, hown, hb⟩ := hrel
  have HOWN := xh hown
  have HB := xh hb
  clear hown hb
  by_cases hlt : k < l.length
  ·obtain ⟨b, off, rfl, _⟩ := HA.out.form (by omega)
   obtain ⟨x0, x1, x2⟩ := (HA.out.below HB.out).at_ hlt
   have HFX := xh (HF.out _ (List.getElem_mem hlt))
   have HTK : Hid (l.take (k + 1) = l.take k ++ [l[k]]) := List.take_succ_eq_append_getElem hlt
   have HLT : Hid ((l.take k).length = k) := by show _ = _; rw [List.length_take]; omega
   generalize l[k] = c at x0 x1 x2 HFX HTK
   obtain ⟨kd, n, t⟩ := c
   simp only at x0 x1 x2 HFX
   generalize l.take k = P at HOWN HTK HLT ⊢
   have GC := xh (fun w => yy61 (bstr t) w (by rw [bstr_size]; have := HFX.out; omega))
   have hr := cm_new wr kd n t
   have HR := xh hr
   have HB1 : Hid (Below wr.heap.size wr (wr.alloc (.cells #[.int .i64 kd, .int .i64 n, .string (bstr t)] 51))) := (Below.refl _ _).alloc (Nat.le_refl _) _
   have r0 := (cm_row hr).2.2
   clear hr
   go_wp2_with fail
   refine (GC.out _).mono ?_
   rintro e w2 ⟨rfl, hb2⟩
   have hr := HR.out.of_block (hb2.block _ HR.out.lt)
   have y2 := (cm_row hr).2.2
   have yf := hr.frozen 2
   have hr2 := hr.set 2 (.string (bstr t))
   have z0 := hr2.cell (i := 0) (by omega)
   have z1 := hr2.cell (i := 1) (by omega)
   have z2 := hr2.cell (i := 2) (by omega)
   have HB2 : Hid (Below wr.heap.size wr (w2.setCell ⟨wr.heap.size, 2, none⟩ (.string (bstr t)))) := (HB1.out.trans (hb2.mono HB1.out.size)).setCell (by show wr.heap.size ≤ wr.heap.size; omega) _
   have z0' : (w2.setCell ⟨wr.heap.size, 2, none⟩ (.string (bstr t))).cell? ⟨wr.heap.size, 0, none⟩ = some (.int .i64 kd) := z0
   have z1' : (w2.setCell ⟨wr.heap.size, 2, none⟩ (.string (bstr t))).cell? ⟨wr.heap.size, 1, none⟩ = some (.int .i64 n) := z1
   have z2' : (w2.setCell ⟨wr.heap.size, 2, none⟩ (.string (bstr t))).cell? ⟨wr.heap.size, 2, none⟩ = some (.string (bstr t)) := z2
   have HOW2 := xh (own_below HOWN.out HB2.out)
   have HUP : Hid (w.heap.size ≤ (w2.setCell ⟨wr.heap.size, 2, none⟩ (.string (bstr t))).heap.size) := Nat.le_trans HB.out.size HB2.out.size
   have HBW : Hid (Below w.heap.size w (w2.setCell ⟨wr.heap.size, 2, none⟩ (.string (bstr t)))) := HB.out.trans (HB2.out.mono HB.out.size)
   clear hr hr2 hb2 x0 x1 x2 r0 z0 z1 z2
   go_wp2_with (at_builtin
                go_loud (refine yy66 rfl (.tmp 16) (.tmp 18) rfl w.heap.size (.slice A0 P.length c0) P ⟨kd, n, t⟩ rfl HOW2.out HUP.out (Eq.trans (rfl : _ = Value.slice (some ⟨w2.heap.size, 0, none⟩) 1 1) (by simp [World.setCell])) (by have := HLT.out; omega) ?_)
                intro out' A5 c5 w5 hout hown hbel
                have HOUT := xh hout
                have HOWN5 := xh hown
                have HBEL := xh (HBW.out.trans hbel)
                clear hout hown hbel)
   go_roundw
   case rel => exact ⟨k + 1, A5, c5, by omega, by go_num, by rw [HTK.out, ← HOUT.out], by rw [HTK.out, ← HOUT.out]; exact HOWN5.out, HBEL.out⟩
   case measure => simp [intOf]; omega
  ·have hke : l.take k = l := List.take_of_length_le (by omega)
   rw [hke] at HOWN ⊢
   clear hke
   go_wp2
   go_ret
   exact ⟨⟨A0, c0, rfl, HOWN.out⟩, HB.out⟩
end Go.Proofs.YtjpjdkdbgjipnaaDoor
namespace Go.Proofs.YtjpjdkdbgjipnaaDoor
def fwd (P : Program) (c : Code) (Q : Exit → Act → World → Prop) : Exit → Act → World → Prop
 | .goto l, a, w => ∃ rest, findLabel c l = some rest ∧ rest.wp P (Exit.noGoto Q) a w
 | e, a, w => Q e a w
theorem yy732 {P : Program} {c : Code} {Q : Exit → Act → World → Prop} {a : Act} {w : World} : fwd P c Q .ret a w = Q .ret a w := rfl
theorem yy335 {P : Program} {a : Act} {w : World} {Q : Exit → Act → World → Prop} {c : Code} (first : c.wp P (fwd P c Q) a w) : (Code.scope c).wp P Q a w := by
 intro b k cs
 obtain ⟨e, a₁, w₁, hq, harr⟩ := first b (.inScope c :: k) cs
 cases e with
 | normal => exact ⟨.normal, a₁, w₁, hq, .head step_scope (Steps.trans harr (.one step_inScope))⟩
 | exit id => exact ⟨.exit id, a₁, w₁, hq, fun k' hk => .head step_scope (harr k' (by simp [exitTo, hk]))⟩
 | goto l =>
  obtain ⟨rest, hf, hrest⟩ := hq
  have hg : gotoIn l (.inScope c :: k) = some (.code rest :: .inScope c :: k) := by simp [gotoIn, hf]
  obtain ⟨e₂, a₂, w₂, hq₂, harr₂⟩ := hrest b (.inScope c :: k) cs
  cases e₂ with
  | normal => exact ⟨.normal, a₂, w₂, hq₂, .of_steps (.head step_scope (harr _ hg)) (Steps.trans harr₂ (.one step_inScope))⟩
  | exit id => exact ⟨.exit id, a₂, w₂, hq₂, fun k' hk => Steps.trans (.head step_scope (harr _ hg)) (harr₂ k' (by simp [exitTo, hk]))⟩
  | goto l' => exact hq₂.elim
  | ret => exact ⟨_, a₂, w₂, hq₂, .of_steps (.head step_scope (harr _ hg)) harr₂⟩
  | panic ch => exact ⟨_, a₂, w₂, hq₂, .of_steps (.head step_scope (harr _ hg)) harr₂⟩
  | outgrown => exact ⟨_, a₂, w₂, hq₂, .of_steps (.head step_scope (harr _ hg)) harr₂⟩
 | ret => exact ⟨_, a₁, w₁, hq, .of_steps (.one step_scope) harr⟩
 | panic ch => exact ⟨_, a₁, w₁, hq, .of_steps (.one step_scope) harr⟩
 | outgrown => exact ⟨_, a₁, w₁, hq, .of_steps (.one step_scope) harr⟩
end Go.Proofs.YtjpjdkdbgjipnaaDoor
namespace Go.Proofs.YtjpjdkdbgjipnaaDoor
open Go.RowKit Go.Deep
end Go.Proofs.YtjpjdkdbgjipnaaDoor
namespace Go.Proofs.YtjpjdkdbgjipnaaDoor
end Go.Proofs.YtjpjdkdbgjipnaaDoor
namespace Go.Proofs.YtjpjdkdbgjipnaaDoor
open Go.RowKit Go.Deep
end Go.Proofs.YtjpjdkdbgjipnaaDoor
namespace Go.Proofs.YtjpjdkdbgjipnaaDoor
end Go.Proofs.YtjpjdkdbgjipnaaDoor
namespace Go.Proofs.YtjpjdkdbgjipnaaDoor
open Go.RowKit Go.Deep
end Go.Proofs.YtjpjdkdbgjipnaaDoor
