/- The contract of the document's own Valid, over any bytes. Condition: no more than 2^40 bytes. (Merged of 2 texts.) -/
import Derived.Test.YtjpjdkdbgjipnaaDoorV7
import Derived.Test.YtjpjdkdbgjipnaaDoorV47
namespace Go.Proofs.YtjpjdkdbgjipnaaDoor
open Go.RowKit Go.Deep
theorem yy168 {w : World} {ops : Array Oper} {rest : List Oper} {o : Oper} {a : Act} {Q : Exit → Act → World → Prop} (hgd : o.guard = none) (s x : Operand)
  (ho : o.op = .call { callee := .builtin .append, args := #[s, x], argTypes := #[30, 30] })
  (base : Nat) (v : Value) (vs : List Nat) (hs : a.eval s = v) (hown : w.ownsRow base 3 1 v vs.length (is64 (nz vs))) (g : Nat) (y : Nat) (hx : a.eval x = .slice (some ⟨g, 0, none⟩) 1 1) (hg : w.cell? ⟨g, 0, none⟩ = some (.int .i64 (y : Int)))
  (hlen : vs.length ≤ 1099511627776) (hbase : base ≤ w.heap.size)
  (h : ∀ v' w', w'.ownsRow base 3 1 v' (vs ++ [y]).length (is64 (nz (vs ++ [y]))) → w.grownBy w' v.ownBlock → wpList Tryd.prog ops Q rest (a.put o.dst v') w') : wpList Tryd.prog ops Q (o :: rest) a w := by
 obtain ⟨i0, hi0, hz0, hz1, hz2⟩ := info_parts yy642
 refine wpList_append_own _ hgd s x 30 ho base 3 i0 (.int .i64 0) 1 8 Tryd.underlying30 hi0 hz0 hz1 hz2 rfl (by omega) v vs.length (is64 (nz vs)) hs hown ⟨g, 0, none⟩ 1 1 [.int .i64 (y : Int)] hx rfl ?_ ?_ (by simp only [maxLen]; omega) (by omega) hbase ?_
 ·intro j u hj
  match j, hj with
  | 0, hj => simp at hj; subst hj; simp [Addr.add]; exact hg
  | (j + 1), hj => simp at hj
 ·intro u hu; simp at hu; subst hu; rfl
 ·intro v' w1 hown1 hgr _
  refine h v' w1 ?_ hgr
  rw [yy722, yy403, List.length_append]
  exact hown1
def PtsRel (w : World) (l : List Nat) (i : Nat) (v : Value) (wr : World) : Prop :=
 ∃ vs r, (∀ v ∈ vs, May v) ∧ l = E vs ++ r ∧ i = (E vs).length ∧ wr.ownsRow w.heap.size 3 1 v vs.length (is64 (nz vs)) ∧ Below w.heap.size w wr
theorem PtsRel.start (w : World) (l : List Nat) : PtsRel w l 0 (.slice none 0 0) w := ⟨[], l, by simp, by rw [E_nil]; rfl, by rw [E_nil]; rfl, by simpa [is64, nz] using World.ownsRow_nil _ _ _ _, Below.refl _ _⟩
set_option maxRecDepth 100000 in
theorem yy94 (l : List Nat) (hb : ∀ x ∈ l, x < 256) (hl : l.length ≤ 1099511627776) (w : World) :
  Calls Tryd.prog 47 #[.string (bstr l)] w fun e w' =>
   ((∃ vs, V l vs ∧ ∃ A c, e = .returned (.tuple #[.slice A (nz vs).length c, .bool true]) ∧ IntsAt w' A (nz vs)) ∨ ((¬ ∃ vs, V l vs) ∧ e = .returned (.tuple #[.slice none 0 0, .bool false]))) ∧ Below w.heap.size w w' := by
 have HP := xh (fun i hi w => yy124 l hb hl i hi w)
 have HB := xh hb; clear hb
 have hsz := bstr_size l
 go_enter Tryd.func47, Tryd.ntmps47
 go_wp2
 go_loopw [4, 5] (fun v i wr => ∃ k : Nat, k ≤ l.length ∧ i = .int .i64 k ∧ PtsRel w l k v wr) (fun _ i _ => l.length - (intOf i).toNat)
 case atStart => exact ⟨0, Nat.zero_le _, rfl, PtsRel.start w l⟩
 case round =>
  obtain ⟨k, hk, rfl, vs, r, hvs, hlr, hke, hown, hbel⟩ := hrel
  have HOWN := xh hown; clear hown
  have HBEL := xh hbel; clear hbel
  have HVS := xh hvs; clear hvs
  have HLR := xh hlr; clear hlr
  have HKE := xh hke; clear hke
  obtain ⟨A4, c4, rfl⟩ := own_slice HOWN.out
  by_cases hlt : k < l.length
  ·have HR : Hid (l.drop k = r) := by show l.drop k = r; rw [HLR.out, HKE.out, List.drop_left' rfl]
   have HRN : Hid (r ≠ []) := by
    show r ≠ []
    intro h
    have h1 := congrArg List.length HLR.out
    rw [h, List.append_nil, ← HKE.out] at h1
    omega
   have HP1 := xh (fun w => HP.out k hlt w)
   rw [HR.out] at HP1
   go_wp2_with fail
   refine (HP1.out _).mono ?_
   rintro e w1 ⟨hpe, rfl⟩
   rcases hpe with ⟨v, t, hst, rfl⟩ | ⟨hst, rfl⟩
   ·obtain ⟨hmay, hrt⟩ := yy129 hst
    have HST := xh hrt
    have HMAY := xh hmay
    have hn1 := yy265 v
    have hn2 := enc_le v
    have HKN : Hid (k + (enc v).length + t.length = l.length) := by
     show k + (enc v).length + t.length = l.length
     rw [HLR.out, HST.out, List.length_append, List.length_append, ← HKE.out, Nat.add_assoc]
    obtain ⟨n, HN⟩ : ∃ n, Hid (n = (enc v).length) := ⟨_, rfl⟩
    rw [← HN.out] at hn1 hn2 HKN
    rw [← HN.out]
    have hne : ((n : Int) == 0) = false := xn (by omega)
    have hkn := HKN.out
    have hvl : Hid (vs.length ≤ 1099511627776) := by
     show vs.length ≤ 1099511627776
     have h1 := yy149 vs
     rw [← HKE.out] at h1
     omega
    clear hst hmay hrt
    go_wp2_with (at_builtin
                 refine yy168 rfl (.tmp 20) (.tmp 22) rfl w.heap.size (.slice A4 vs.length c4) vs rfl (HOWN.out.alloc _) wr.heap.size v rfl (by simp) hvl.out (by have := HBEL.out.size; simp; omega) ?_
                 intro v1 w1 hown1 hgr
                 have HOWN1 := xh hown1
                 have HB1 : Hid (Below w.heap.size w w1) := (HBEL.out.alloc HBEL.out.size _).grown hgr (by have := HBEL.out.size; simp; omega) (fun j hj => (HOWN.out.lt j hj).1)
                 clear hown1 hgr)
    go_roundw
    case rel =>
     refine ⟨k + n, by omega, by go_num, vs ++ [v], t, ?_, by rw [E_snoc, List.append_assoc, ← HST.out, ← HLR.out], by rw [E_snoc, List.length_append, ← HN.out, ← HKE.out], HOWN1.out, HB1.out⟩
     intro x hx
     rcases List.mem_append.1 hx with hx | hx
     ·exact HVS.out x hx
     ·rw [List.mem_singleton.1 hx]; exact HMAY.out
    case measure => simp [intOf]; omega
   ·have HNO : Hid (¬ ∃ vs, V l vs) := by
     show ¬ ∃ vs, V l vs
     rw [HLR.out]
     exact yy65 HVS.out HRN.out hst
    clear hst
    go_wp2
    go_ret2
    exact ⟨.inr ⟨HNO.out, rfl⟩, HBEL.out⟩
  ·have HV : Hid (V l vs) := by
    refine ⟨HVS.out, ?_⟩
    have h1 := congrArg List.length HLR.out
    rw [List.length_append, ← HKE.out] at h1
    have h2 : r = [] := List.eq_nil_of_length_eq_zero (by omega)
    rw [HLR.out, h2, List.append_nil]
   go_wp2
   go_ret2
   exact ⟨.inl ⟨vs, HV.out, A4, c4, by rw [yy173]; rfl, IntsAt.of_own HOWN.out (yy173 _).symm⟩, HBEL.out⟩
theorem yy193 (l : List Nat) (hb : ∀ x ∈ l, x < 256) (hl : l.length ≤ 1099511627776) (w : World) :
  Calls Tryd.prog 29 #[.string (bstr l)] w fun e w' => e = .returned (.bool (validB l)) ∧ Below w.heap.size w w' := by
 have HP := xh (yy94 l hb hl w)
 obtain ⟨F, HF⟩ : ∃ F, Hid (validB l = F) := ⟨_, rfl⟩
 rw [HF.out]
 go_enter Tryd.func29, Tryd.ntmps29
 go_wp2_with fail
 refine HP.out.mono ?_
 rintro e w1 ⟨⟨vs, hv, A, c, rfl, _⟩ | ⟨hn, rfl⟩, hbel⟩
 ·have e1 : Hid (F = true) := by show F = true; rw [← HF.out]; exact yy182 hv
  clear hv
  go_wp2
  go_ret
  exact ⟨by rw [e1.out]; rfl, hbel⟩
 ·have e1 : Hid (F = false) := by show F = false; rw [← HF.out]; exact yy230 hn
  clear hn
  go_wp2
  go_ret
  exact ⟨by rw [e1.out]; rfl, hbel⟩
end Go.Proofs.YtjpjdkdbgjipnaaDoor
