/- What Do and Undo answer, as functions of what came in; the document's own and the landed ones both answer so. Conditions: no more than 2^30 bytes of text. (Merged of 7 texts.) -/
import Derived.Test.YtakdcfjlhpponaaKOp
import Derived.Test.YtakdcfjlhpponaaKUm
import Derived.Scope
import Derived.Test.YtakdcfjlhpponaaKEdit
import Derived.Test.YtakdcfjlhpponaaKUw
import Derived.Test.YtakdcfjlhpponaaShelf
import Derived.Test.YtakdcfjlhpponaaKCells
import Derived.Test.YtakdcfjlhpponaaKBase
import Derived.Test.YtakdcfjlhpponaaKRef
/- apply's width: how many bytes the first code points of a text have. Conditions: a text of no more than 2^40 bytes, that has as many code points. -/
namespace Go.Proofs.Ytakdcfjlhpponaa
open Go.RowKit Go.Deep

theorem E_split (vs : List Nat) (k : Nat) : E vs = E (vs.take k) ++ E (vs.drop k) := by rw [← E_append, List.take_append_drop]
theorem E_drop (vs : List Nat) (k : Nat) : (E vs).drop (E (vs.take k)).length = E (vs.drop k) := by
  conv => lhs; rw [E_split vs k]
  exact List.drop_left' rfl
theorem lse_text {v : Nat} (h : May v) (r : List Nat) : lseStep (enc v ++ r) = (enc v).length := by rw [lseStep, st_enc h]
theorem E_take_len (vs : List Nat) (k : Nat) : (E (vs.take k)).length ≤ (E vs).length := by
  conv => rhs; rw [E_split vs k]
  rw [List.length_append]; omega

set_option maxHeartbeats 2000000 in
set_option maxRecDepth 100000 in
theorem width_any {l vs : List Nat} (hv : V l vs) (hl : l.length ≤ 1099511627776) (n : Nat) (hn : n ≤ vs.length) (w : World) :
    Calls Try.prog 65 #[.string (bstr l), .int .i64 (n : Int)] w fun e w' => e = .returned (.int .i64 ((E (vs.take n)).length : Int)) ∧ Below w.heap.size w w' := by
  have hsz := bstr_size l
  have HV := Lib.hid hv; clear hv
  have hnl : n ≤ l.length := Nat.le_trans hn HV.out.length_le
  go_enter Try.func65, Try.ntmps65
  go_wp2
  go_loopw [1, 4, 5] (fun m r a wr => ∃ k q : Nat, k + q = n ∧ r = .int .i64 0 ∧ wr = w.iter (bstr l) (E (vs.take k)).length ∧ m = .int .i64 (q : Int)) (fun _ _ _ wr => l.length - wr.iterPos w.heap.size)
  case atStart => exact ⟨0, n, by omega, rfl, by rw [List.take_zero, E_nil]; rfl, rfl⟩
  case round =>
    obtain ⟨k, q, hkq, rfl, rfl, rfl⟩ := hrel
    obtain ⟨p, HP⟩ : ∃ p, Hid ((E (vs.take k)).length = p) := ⟨_, Lib.hid rfl⟩
    have HPL : Hid (p ≤ l.length) := by show _ ≤ _; rw [← HP.out, ← HV.out.bytes]; exact E_take_len vs k
    rw [HP.out]
    by_cases hlt : p < l.length
    · have hnx : ∀ ty, (Instr.next (.pointer (some ⟨w.heap.size, 0, none⟩)) true ty).run Try.prog (w.iter (bstr l) p) = _ := fun ty => run_next_any w (bstr l) p ty (by rw [hsz]; exact hlt)
      have HW := Lib.hid (decode_lse l HV.out.lt p hlt)
      generalize (Utf8.decode (bstr l) p).1 = v at hnx
      by_cases h0 : q = 0
      · subst h0
        have HE : Hid ((E (vs.take n)).length = p) := by show _ = _; rw [← HP.out, ← hkq]; rfl
        clear HW
        go_wp2
        go_ret
        exact ⟨by rw [HE.out]; rfl, (Below.refl _ _).alloc (Nat.le_refl _) _⟩
      · obtain ⟨q, rfl⟩ : ∃ j, q = j + 1 := ⟨q - 1, by omega⟩
        have hk : k < vs.length := by omega
        have hdr : l.drop p = enc vs[k] ++ E (vs.drop (k + 1)) := by
          rw [← HP.out, ← HV.out.bytes, E_drop, List.drop_eq_getElem_cons hk, E_cons]
        have hm : May vs[k] := HV.out.may _ (List.getElem_mem hk)
        have HS : Hid ((Utf8.decode (bstr l) p).2 = (enc vs[k]).length) := by
          show _ = _
          rw [HW.out, hdr, lse_text hm]
        have HN : Hid ((E (vs.take (k + 1))).length = p + (enc vs[k]).length) := by
          show _ = _
          rw [List.take_succ_eq_append_getElem hk, E_snoc, List.length_append, HP.out]
        have hpos := enc_pos vs[k]
        clear HW hdr hm
        rw [HS.out] at hnx
        have e0 : (((q : Int) + 1) == 0) = false := beq_eq_false_iff_ne.2 (by omega)
        have e1 : (((q + 1 : Nat) : Int) == 0) = false := beq_eq_false_iff_ne.2 (by omega)
        generalize (enc vs[k]).length = s at hnx HN hpos HS
        go_wp2
        go_roundw
        case rel => exact ⟨k + 1, q, by omega, rfl, by rw [HN.out], by go_num⟩
        case measure => simp; omega
    · have hnx : ∀ ty, (Instr.next (.pointer (some ⟨w.heap.size, 0, none⟩)) true ty).run Try.prog (w.iter (bstr l) p) = _ := fun ty => run_next_end w (bstr l) p ty (by rw [hsz]; exact hlt)
      have HE : Hid ((E (vs.take n)).length = l.length) := by
        show _ = _
        have h1 := E_len_take vs k n (by omega)
        have h2 := E_take_len vs n
        rw [HV.out.bytes] at h2
        have := HP.out
        omega
      go_wp2
      go_ret
      exact ⟨by rw [HE.out]; rfl, (Below.refl _ _).alloc (Nat.le_refl _) _⟩
end Go.Proofs.Ytakdcfjlhpponaa

/- A scope in which the run jumps ahead to labels, any number of them, and no way back: whoever jumps walks on from the label on. No condition. -/
namespace Go.Proofs.Ytakdcfjlhpponaa

/-- As Q; by a goto to a label: what stands from that label on is walked, and jumps no more. -/
def fwd (P : Program) (c : Code) (Q : Exit → Act → World → Prop) : Exit → Act → World → Prop
  | .goto l, a, w => ∃ rest, findLabel c l = some rest ∧ rest.wp P (Exit.noGoto Q) a w
  | e, a, w => Q e a w

theorem fwd_ret {P : Program} {c : Code} {Q : Exit → Act → World → Prop} {a : Act} {w : World} : fwd P c Q .ret a w = Q .ret a w := rfl

theorem wp_scope_fwd {P : Program} {a : Act} {w : World} {Q : Exit → Act → World → Prop} {c : Code} (first : c.wp P (fwd P c Q) a w) : (Code.scope c).wp P Q a w := by
  intro b k cs
  obtain ⟨e, a₁, w₁, hq, harr⟩ := first b (.inScope c :: k) cs
  cases e with
  | normal => exact ⟨.normal, a₁, w₁, hq, .head step_scope (Steps.trans harr (.one step_inScope))⟩
  | exit id => exact ⟨.exit id, a₁, w₁, hq, fun k' hk => .head step_scope (harr k' (by simp [exitTo, hk]))⟩
  | goto l =>
    obtain ⟨rest, hf, hrest⟩ := hq
    have hg : gotoIn l (.inScope c :: k) = some (.code rest :: .inScope c :: k) := by simp [gotoIn, hf]
    obtain ⟨e₂, a₂, w₂, hq₂, harr₂⟩ := hrest b (.inScope c :: k) cs
    cases e₂ with
    | normal => exact ⟨.normal, a₂, w₂, hq₂, .of_steps (.head step_scope (harr _ hg)) (Steps.trans harr₂ (.one step_inScope))⟩
    | exit id => exact ⟨.exit id, a₂, w₂, hq₂, fun k' hk => Steps.trans (.head step_scope (harr _ hg)) (harr₂ k' (by simp [exitTo, hk]))⟩
    | goto l' => exact hq₂.elim
    | ret => exact ⟨_, a₂, w₂, hq₂, .of_steps (.head step_scope (harr _ hg)) harr₂⟩
    | panic ch => exact ⟨_, a₂, w₂, hq₂, .of_steps (.head step_scope (harr _ hg)) harr₂⟩
    | outgrown => exact ⟨_, a₂, w₂, hq₂, .of_steps (.head step_scope (harr _ hg)) harr₂⟩
  | ret => exact ⟨_, a₁, w₁, hq, .of_steps (.one step_scope) harr⟩
  | panic ch => exact ⟨_, a₁, w₁, hq, .of_steps (.one step_scope) harr⟩
  | outgrown => exact ⟨_, a₁, w₁, hq, .of_steps (.one step_scope) harr⟩
end Go.Proofs.Ytakdcfjlhpponaa

/- apply's walk, over whatever is shown the parts: each with what it keeps or deletes of the text. Conditions: no more than 2^30 bytes of text; what is shown keeps the parts. -/
namespace Go.Proofs.Ytakdcfjlhpponaa
open Go.RowKit Go.Deep

/-- What a part keeps or deletes of a text. -/
def thereOf (vs : List Nat) (l : List CompV) (i : Nat) : List Nat := (vs.drop (inS (l.take i))).take (inS (l.take (i + 1)) - inS (l.take i))
theorem inS_snoc (l : List CompV) (c : CompV) : inS (l ++ [c]) = inS l + inN c := by rw [inS_append, inS_cons, inS_nil]; omega
theorem inS_take_le (l : List CompV) (i : Nat) : inS (l.take i) ≤ inS l := by
  conv => rhs; rw [← List.take_append_drop i l, inS_append]
  omega
theorem Wh.n {c : CompV} (h : Wh c) : c.n = (inN c : Int) := by
  rcases h.cases with ⟨hk, hn, _⟩ | ⟨hk, hn, _⟩ | ⟨hk, hn, _⟩
  · rw [in_one hk]; omega
  · rw [in_three hk]; omega
  · rw [in_two hk]; omega

/-- What is told of a walk, and how far it has come. -/
def WalkEnd (Inv : Nat → World → Prop) (t : List Nat) (l : List CompV) (e : Ending) (w' : World) : Prop :=
  (rCheck l ≠ 0 ∧ e = .returned (.int .i64 (rCheck l : Int)) ∧ Inv 0 w') ∨
  (rCheck l = 0 ∧ (¬ ∃ vs, V t vs) ∧ e = .returned (.int .i64 2) ∧ Inv 0 w') ∨
  (rCheck l = 0 ∧ ∃ vs, V t vs ∧ (((vs.length : Int) ≠ rBase l ∧ e = .returned (.int .i64 11) ∧ Inv 0 w') ∨ ((vs.length : Int) = rBase l ∧ e = .returned (.int .i64 0) ∧ Inv l.length w')))

theorem part_row (w : World) (kd n : Int) (tx : List Nat) : (w.alloc (.cells #[.int .i64 kd, .int .i64 n, .string (bstr tx)] 60)).rowIs w.heap.size 60 3 (cmCells kd n tx) :=
  World.rowIs_alloc w #[.int .i64 kd, .int .i64 n, .string (bstr tx)] 60 (cmCells kd n tx) (fun i hi => by
    rcases (show i = 0 ∨ i = 1 ∨ i = 2 by simp at hi; omega) with rfl | rfl | rfl <;> rfl)

set_option maxHeartbeats 8000000 in
set_option maxRecDepth 100000 in
theorem apWalk_any (K : Nat) (hK : ∀ (args : Array Value) (w : World), (callFunc K args).run Try.prog w = .ok (.enter K args) w) (cap : Array Value)
    (t : List Nat) (hb : ∀ x ∈ t, x < 256) (htl : t.length ≤ 1073741824) (A : Option Addr) (c : Nat) (l : List CompV) (hl : l.length ≤ maxLen) (hf : Fine1 l) (Inv : Nat → World → Prop)
    (hkeep : ∀ i w w', Inv i w → Below w.heap.size w w' → Inv i w') (hcomps : ∀ i w, Inv i w → CompsAt w A l)
    (hshow : rCheck l = 0 → ∀ vs, V t vs → vs.length = inS l → ∀ i w (hi : i < l.length), Inv i w →
      Calls Try.prog K (#[.agg #[.int .i64 l[i].kind, .int .i64 l[i].n, .string (bstr l[i].text)], .string (bstr (E (thereOf vs l i)))] ++ cap) w fun e w' => e = .returned (.tuple #[]) ∧ Inv (i + 1) w')
    (w : World) (h0 : Inv 0 w) :
    Calls Try.prog 41 #[.string (bstr t), .slice A l.length c, .func (.func K) #[] cap] w fun e w' => WalkEnd Inv t l e w' := by
  have HKP := Lib.hid hkeep; clear hkeep
  have HCM := Lib.hid hcomps; clear hcomps
  have HSH := Lib.hid hshow; clear hshow
  have HL := Lib.hid hl
  have HF := Lib.hid hf
  have HI := Lib.hid h0
  have GC := Lib.hid (opCheck_any A c l hl hf w (HCM.out 0 w h0))
  have GB := Lib.hid (fun w h => opBase_any A c l HL.out w h)
  have HTL := Lib.hid htl
  have HB := Lib.hid hb
  clear h0 hf hb htl
  unfold maxLen at hl
  by_cases hz : rCheck l = 0
  · rw [hz] at GC
    have HOK := Lib.hid (ok_of hz)
    by_cases hv : ∃ vs, V t vs
    · obtain ⟨vs, hvs⟩ := hv
      have HV := Lib.hid hvs; clear hvs
      have GN := Lib.hid (fun w => utfCount_yes HV.out (by have := HTL.out; omega) w)
      have hvl : vs.length ≤ 1073741824 := Nat.le_trans HV.out.length_le HTL.out
      obtain ⟨p, HP⟩ : ∃ x, Hid (rBase l = x) := ⟨_, Lib.hid rfl⟩
      have HPI : Hid (p = (inS l : Int)) := by show _ = _; rw [← HP.out]; exact HOK.out.base
      rw [HP.out] at GB
      have HZ := Lib.hid hz; clear hz
      by_cases hbl : (vs.length : Int) = p
      · have hne : ((vs.length : Int) != p) = false := by rw [bne_eq_false_iff_eq]; exact hbl
        have HBL := Lib.hid hbl
        clear hbl
        have HVI : Hid (vs.length = inS l) := by show _ = _; have := HBL.out; have := HPI.out; omega
        have HE : Hid (∀ w', Inv l.length w' → WalkEnd Inv t l (.returned (.int .i64 0)) w') := fun w' h => .inr (.inr ⟨HZ.out, vs, HV.out, .inr ⟨by rw [HP.out]; exact HBL.out, rfl, h⟩⟩)
        have HSW := Lib.hid (HSH.out HZ.out vs HV.out HVI.out)
        go_enter Try.func41, Try.ntmps41
        go_wp2
        refine wp_scope_fwd ?_
        go_wp2_with fail
        refine GC.out.mono ?_
        rintro e w1 ⟨rfl, hb1⟩
        have HI1 := Lib.hid (HKP.out _ _ _ HI.out hb1); clear hb1
        go_wp2_with fail
        refine (GN.out w1).mono ?_
        rintro e w2 ⟨rfl, hb2⟩
        have HI2 := Lib.hid (HKP.out _ _ _ HI1.out hb2); clear hb2
        go_wp2_with fail
        refine (GB.out w2 (HCM.out _ _ HI2.out)).mono ?_
        rintro e w3 ⟨rfl, hb3⟩
        have HI3 := Lib.hid (HKP.out _ _ _ HI2.out hb3); clear hb3
        go_wp2
        go_loopw [0, 29] (fun x i wr => ∃ k : Nat, k ≤ l.length ∧ i = .int .i64 k ∧ x = .string (bstr (E (vs.drop (inS (l.take k))))) ∧ Inv k wr) (fun _ i _ => l.length - (intOf i).toNat)
        case atStart => exact ⟨0, Nat.zero_le _, rfl, by rw [List.take_zero, inS_nil, List.drop_zero, HV.out.bytes], HI3.out⟩
        case round =>
          obtain ⟨k, hk, rfl, rfl, hi⟩ := hrel
          have HIK := Lib.hid hi; clear hi
          by_cases hlt : k < l.length
          · obtain ⟨b, off, rfl, _⟩ := (HCM.out k _ HIK.out).form (by omega)
            obtain ⟨x0, x1, x2⟩ := (HCM.out k _ HIK.out).at_ hlt
            have HS1 := Lib.hid (HSW.out k · hlt)
            have HWN := Lib.hid (HOK.out.wh _ (List.getElem_mem hlt)).n
            have HSN : Hid (inS (l.take (k + 1)) = inS (l.take k) + inN l[k]) := by show _ = _; rw [List.take_succ_eq_append_getElem hlt, inS_snoc]
            have HSL : Hid (inS (l.take (k + 1)) ≤ vs.length) := by show _ ≤ _; rw [HVI.out]; exact inS_take_le l (k + 1)
            have HTO : Hid (thereOf vs l k = (vs.drop (inS (l.take k))).take (inS (l.take (k + 1)) - inS (l.take k))) := rfl
            obtain ⟨a, HA⟩ : ∃ x, Hid (inS (l.take k) = x) := ⟨_, Lib.hid rfl⟩
            obtain ⟨m, HM⟩ : ∃ x, Hid (inN l[k] = x) := ⟨_, Lib.hid rfl⟩
            obtain ⟨T, HT⟩ : ∃ x, Hid (thereOf vs l k = x) := ⟨_, Lib.hid rfl⟩
            rw [HT.out] at HS1 HTO
            rw [HA.out, HM.out] at HSN
            rw [HM.out] at HWN
            rw [HSN.out] at HSL
            rw [HSN.out, HA.out, show a + m - a = m by omega] at HTO
            have HSL2 := HSL.out
            have HVR : Hid (V (E (vs.drop a)) (vs.drop a)) := V.mk (fun v hv => HV.out.may v (List.mem_of_mem_drop hv))
            have HRL : Hid ((E (vs.drop a)).length ≤ 1073741824) := by
              show _ ≤ _
              rw [← E_drop, HV.out.bytes, List.length_drop]
              have := HTL.out
              omega
            have GW := Lib.hid (fun w => width_any HVR.out (by have := HRL.out; omega) m (by rw [List.length_drop]; omega) w)
            obtain ⟨q, HQ⟩ : ∃ x, Hid ((E ((vs.drop a).take m)).length = x) := ⟨_, Lib.hid rfl⟩
            rw [HQ.out] at GW
            have hqle : q ≤ (E (vs.drop a)).length := by rw [← HQ.out]; exact E_take_len _ _
            have hsl1 := fun w => slice_bstr_to (E (vs.drop a)) q hqle w
            have hsl2 := fun w => slice_bstr_from (E (vs.drop a)) q hqle w
            have e1 : (E (vs.drop a)).take q = E T := by
              rw [← HQ.out, HTO.out]
              have := E_piece (vs.drop a) 0 m (Nat.zero_le _)
              rw [List.take_zero, E_nil, List.drop_zero] at this
              exact this
            have e2 : (E (vs.drop a)).drop q = E (vs.drop (a + m)) := by
              rw [← HQ.out, E_drop, List.drop_drop]
            rw [e1] at hsl1
            rw [e2] at hsl2
            have hsz : (bstr (E T)).size = q := by rw [bstr_size, HTO.out]; exact HQ.out
            have HSZ := Lib.hid hsz
            clear e1 e2 hsz hqle
            obtain ⟨S, HSS⟩ : ∃ x, Hid (bstr (E T) = x) := ⟨_, Lib.hid rfl⟩
            rw [HSS.out] at hsl1 HS1 HSZ
            have hsz := HSZ.out
            rw [HA.out]
            obtain ⟨S0, HS0⟩ : ∃ x, Hid (bstr (E (vs.drop a)) = x) := ⟨_, Lib.hid rfl⟩
            rw [HS0.out] at hsl1 hsl2 GW ⊢
            have HSN2 : Hid (inS (l.take (k + 1)) = a + m) := HSN
            generalize l[k] = y at x0 x1 x2 HS1 HWN HM
            obtain ⟨kd, n, tx⟩ := y
            simp only at x0 x1 x2 HS1 HWN
            have hwn := HWN.out
            subst hwn
            clear HSN HSL2
            go_wp2_with fail
            refine (GW.out _).mono ?_
            rintro e w5 ⟨rfl, hb5⟩
            have HR : Hid (w5.rowIs wr.heap.size 60 3 (cmCells kd m tx)) := (part_row wr kd m tx).of_block (hb5.block wr.heap.size (by simp))
            have y0 : w5.cell? ⟨wr.heap.size, 0, none⟩ = some (.int .i64 kd) := HR.out.cell (i := 0) (by omega)
            have y1 : w5.cell? ⟨wr.heap.size, 1, none⟩ = some (.int .i64 (m : Int)) := HR.out.cell (i := 1) (by omega)
            have y2 : w5.cell? ⟨wr.heap.size, 2, none⟩ = some (.string (bstr tx)) := HR.out.cell (i := 2) (by omega)
            have HI5 : Hid (Inv k w5) := HKP.out _ _ _ HIK.out (((Below.refl _ wr).alloc (Nat.le_refl _) _).trans (hb5.mono (by simp)))
            clear hb5 x0 x1 x2
            go_wp2_with fail
            refine (HS1.out _ HI5.out).mono ?_
            rintro e w6 ⟨rfl, hi6⟩
            have HI6 := Lib.hid hi6; clear hi6
            clear y0 y1 y2
            go_wp2
            go_roundw
            case rel => exact ⟨k + 1, by omega, by go_num, by rw [HSN2.out], HI6.out⟩
            case measure => simp [intOf]; omega
          · have hkl : k = l.length := by omega
            subst hkl
            go_wp2
            go_step3
            go_wp2
            rw [fwd_ret]
            go_ret
            exact HE.out _ HIK.out
      · have hne : ((vs.length : Int) != p) = true := by rw [bne_iff_ne]; exact hbl
        have HE : Hid (∀ w', Inv 0 w' → WalkEnd Inv t l (.returned (.int .i64 11)) w') := fun w' h => .inr (.inr ⟨HZ.out, vs, HV.out, .inl ⟨by rw [HP.out]; exact hbl, rfl, h⟩⟩)
        clear hbl
        go_enter Try.func41, Try.ntmps41
        go_wp2
        refine wp_scope_fwd ?_
        go_wp2_with fail
        refine GC.out.mono ?_
        rintro e w1 ⟨rfl, hb1⟩
        have HI1 := Lib.hid (HKP.out _ _ _ HI.out hb1); clear hb1
        go_wp2_with fail
        refine (GN.out w1).mono ?_
        rintro e w2 ⟨rfl, hb2⟩
        have HI2 := Lib.hid (HKP.out _ _ _ HI1.out hb2); clear hb2
        go_wp2_with fail
        refine (GB.out w2 (HCM.out _ _ HI2.out)).mono ?_
        rintro e w3 ⟨rfl, hb3⟩
        have HI3 := Lib.hid (HKP.out _ _ _ HI2.out hb3); clear hb3
        go_wp2
        go_step3
        refine ⟨_, rfl, ?_⟩
        go_wp2
        rw [Exit.noGoto_ret]
        go_ret
        exact HE.out _ HI3.out
    · have HE : Hid (∀ w', Inv 0 w' → WalkEnd Inv t l (.returned (.int .i64 2)) w') := fun w' h => .inr (.inl ⟨hz, hv, rfl, h⟩)
      have GN := Lib.hid (fun w => utfCount_no hv HB.out (by have := HTL.out; omega) w)
      clear hv hz
      go_enter Try.func41, Try.ntmps41
      go_wp2
      refine wp_scope_fwd ?_
      go_wp2_with fail
      refine GC.out.mono ?_
      rintro e w1 ⟨rfl, hb1⟩
      have HI1 := Lib.hid (HKP.out _ _ _ HI.out hb1); clear hb1
      go_wp2_with fail
      refine (GN.out w1).mono ?_
      rintro e w2 ⟨rfl, hb2⟩
      have HI2 := Lib.hid (HKP.out _ _ _ HI1.out hb2); clear hb2
      go_wp2
      go_step3
      refine ⟨_, rfl, ?_⟩
      go_wp2
      rw [Exit.noGoto_ret]
      go_ret
      exact HE.out _ HI2.out
  · have HE : Hid (∀ w', Inv 0 w' → WalkEnd Inv t l (.returned (.int .i64 (rCheck l : Int))) w') := fun w' h => .inl ⟨hz, rfl, h⟩
    obtain ⟨q, HQ⟩ : ∃ q, Hid (rCheck l = q) := ⟨_, Lib.hid rfl⟩
    rw [HQ.out] at GC HE hz
    have hz2 : ((q : Int) != 0) = true := bne_iff_ne.2 (by omega)
    go_enter Try.func41, Try.ntmps41
    go_wp2
    refine wp_scope_fwd ?_
    go_wp2_with fail
    refine GC.out.mono ?_
    rintro e w1 ⟨rfl, hb1⟩
    have HI1 := Lib.hid (HKP.out _ _ _ HI.out hb1); clear hb1
    go_wp2
    go_step3
    refine ⟨_, rfl, ?_⟩
    go_wp2
    rw [Exit.noGoto_ret]
    go_ret
    exact HE.out _ HI1.out
end Go.Proofs.Ytakdcfjlhpponaa

/- strings.Builder, of the call's own: WriteString puts a text behind what it holds, String tells it. Condition: no more than 2^46 bytes. -/
namespace Go.Proofs.Ytakdcfjlhpponaa
open Go.RowKit Go.Deep

/-- The builder in block b holds the bytes l. -/
def BldAt (B b : Nat) (l : List Nat) (w : World) : Prop := Lib.IsBuilder 71 5 B b (Lib.byteCells (l.map fun x : Nat => UInt8.ofNat x)) w

theorem bld_size : ∃ j, Try.prog.info? 71 = some j ∧ j.size = 2 := Option.map_eq_some_iff.1 (by kernel_rfl : (Try.prog.info? 71).map (·.size) = some 2)
theorem bld_lies : liesAt Try.prog Try.prog.depth 71 (2 / Try.prog.cellsOf 71) 0 71 1 = true := by kernel_rfl
theorem byte_info : (Try.prog.info? 5).map (fun i => (i.zero, i.size, i.bytes)) = some (some (.int .u8 0), 1, 1) := by kernel_rfl

set_option maxHeartbeats 1000000 in
set_option maxRecDepth 100000 in
theorem check_fresh (b : Nat) (w : World) (h0 : w.cell? ⟨b, 0, none⟩ = some (.pointer none)) (hsh : w.shape? b = some (71, 2)) (hfz : w.frozen? ⟨b, 0, none⟩ = false) :
    Calls Try.prog 66 #[.pointer (some ⟨b, 0, none⟩)] w fun e w' => e = .returned (.tuple #[]) ∧ w' = w.setCell ⟨b, 0, none⟩ (.pointer (some ⟨b, 0, none⟩)) := by
  obtain ⟨j, hj, hjs⟩ := bld_size
  go_enter Try.func66, Try.ntmps66
  go_wp2
  rw [Lib.run_to_unsafe w ⟨b, 0, none⟩ Try.underlying68 Try.underlying100 hj (by rw [hjs]; decide) hsh (Nat.zero_lt_succ 1)]
  simp only [Result.andThen]
  rw [Oper.upon_value]
  go_wp2
  rw [run_callFunc_extern Try.func75 (by kernel_rfl) (by kernel_rfl) (by kernel_rfl) (e := Extern.AbiNoEscape.same) (by kernel_rfl), Lib.run_noEscape]
  simp only [Result.andThen]
  rw [Oper.upon_value]
  go_wp2
  rw [Lib.run_from_unsafe w ⟨b, 0, none⟩ Try.underlying100 Try.underlying68 hj hsh bld_lies]
  simp only [Result.andThen]
  rw [Oper.upon_value]
  go_wp2
  go_end0
  exact ⟨rfl, rfl⟩
set_option maxHeartbeats 1000000 in
set_option maxRecDepth 100000 in
theorem check_used (b : Nat) (w : World) (h0 : w.cell? ⟨b, 0, none⟩ = some (.pointer (some ⟨b, 0, none⟩))) :
    Calls Try.prog 66 #[.pointer (some ⟨b, 0, none⟩)] w fun e w' => e = .returned (.tuple #[]) ∧ w' = w := by
  obtain ⟨j, hj, _⟩ := bld_size
  have hn := Lib.run_neq_ptr_same w ⟨b, 0, none⟩ Try.underlying68 hj
  go_enter Try.func66, Try.ntmps66
  go_wp2
  go_end0
  exact ⟨rfl, rfl⟩
theorem check_any (B b : Nat) (bs : List Value) (w : World) (h : Lib.IsBuilder 71 5 B b bs w) :
    Calls Try.prog 66 #[.pointer (some ⟨b, 0, none⟩)] w fun e w' => e = .returned (.tuple #[]) ∧ (Lib.BuilderAt 71 5 B b (.pointer (some ⟨b, 0, none⟩)) bs w' ∧ Below B w w') := by
  rcases h with h | h
  · refine (check_fresh b w h.cell0 h.shape h.frozen0).mono ?_
    rintro e w' ⟨rfl, rfl⟩
    exact ⟨rfl, h.used _, (Below.refl B w).setCell (p := ⟨b, 0, none⟩) h.1 _⟩
  · refine (check_used b w h.cell0).mono ?_
    rintro e w' ⟨rfl, rfl⟩
    exact ⟨rfl, h, Below.refl B _⟩

set_option maxHeartbeats 2000000 in
set_option maxRecDepth 100000 in
theorem writeString_any (B b : Nat) (l t : List Nat) (w : World) (h : BldAt B b l w) (hl : l.length + t.length ≤ 70368744177664) (hBw : B ≤ w.heap.size) :
    Calls Try.prog 43 #[.pointer (some ⟨b, 0, none⟩), .string (bstr t)] w fun e w' => e = .returned (.tuple #[.int .i64 (t.length : Int), .nilIface]) ∧ BldAt B b (l ++ t) w' ∧ Below B w w' := by
  obtain ⟨i0, hi, hz0, hz1, hz2⟩ := info_parts byte_info
  have hsz := bstr_size t
  obtain ⟨bs, HBS⟩ : ∃ bs, Hid (Lib.byteCells (l.map fun x : Nat => UInt8.ofNat x) = bs) := ⟨_, Lib.hid rfl⟩
  have HLEN : Hid (bs.length = l.length) := by show _ = _; rw [← HBS.out, Lib.byteCells_length, List.length_map]
  have HFIN : Hid (bs ++ Lib.strCells (bstr t) = Lib.byteCells ((l ++ t).map fun x : Nat => UInt8.ofNat x)) := by
    show _ = _
    rw [← HBS.out, List.map_append, Lib.strCells, bstr_data]
    simp [Lib.byteCells]
  have h' : Lib.IsBuilder 71 5 B b bs w := by rw [← HBS.out]; exact h
  have GK := Lib.hid (check_any B b bs w h')
  clear h h'
  go_enter Try.func43, Try.ntmps43
  go_wp2_with fail
  refine GK.out.mono ?_
  rintro e w1 ⟨rfl, h1, hb1⟩
  obtain ⟨hB, v, hbk, hown, hne⟩ := h1
  have c0 : w1.cell? ⟨b, 0, none⟩ = some (.pointer (some ⟨b, 0, none⟩)) := by rw [Lib.cell_of_heap hbk]; rfl
  have c1 : w1.cell? ⟨b, 1, none⟩ = some v := by rw [Lib.cell_of_heap hbk]; rfl
  go_wp2_with (at_builtin; refine Lib.wpList_append_own_string _ rfl _ _ 69 9 rfl B 5 i0 Try.underlying69 Try.underlying9 hi hz0 hz1 hz2 _ _ _ rfl hown (bstr t) rfl ?c3 ?c4 ?c5 ?_)
  case c3 => unfold maxLen; have := HLEN.out; omega
  case c4 => have := HLEN.out; omega
  case c5 => have := hb1.size; omega
  intro v' w2 hown' hgrow _
  have hlt : b < w1.heap.size := by
    rcases Nat.lt_or_ge b w1.heap.size with h' | h'
    · exact h'
    · simp [Array.getElem?_eq_none h'] at hbk
  have hb2 : w2.heap[b]? = some (.cells #[.pointer (some ⟨b, 0, none⟩), v] 71 (0, 0)) := by
    rw [hgrow.block b hlt (fun e => hne e.symm)]
    exact hbk
  have d1 : w2.cell? ⟨b, 1, none⟩ = some v := by rw [Lib.cell_of_heap hb2]; rfl
  have f1 : w2.frozen? ⟨b, 1, none⟩ = false := Lib.frozen_of_heap hb2 1
  obtain ⟨ao, n', cap, rfl⟩ : ∃ ao n' cap, v' = .slice ao n' cap := by
    rcases hown'.2 with ⟨hv, _⟩ | ⟨g, cap, cur, hv, _⟩
    · exact ⟨_, _, _, hv⟩
    · exact ⟨_, _, _, hv⟩
  go_wp2
  go_ret2
  refine ⟨rfl, ?_, ?_⟩
  · rw [BldAt, ← HFIN.out]
    exact .inr (Lib.BuilderAt.put (T := 71) (e := 5) hB hb2 (bs' := bs ++ Lib.strCells (bstr t)) (by rw [List.length_append, Lib.strCells_length, hsz]; exact hown') (by decide))
  · exact (hb1.grown hgrow (by have := hb1.size; omega) (fun k hk => (hown.lt k hk).1)).setCell (p := ⟨b, 1, none⟩) hB _
theorem bldString_any (B b : Nat) (l : List Nat) (w : World) (h : BldAt B b l w) (hBw : B ≤ w.heap.size) :
    Calls Try.prog 44 #[.pointer (some ⟨b, 0, none⟩)] w fun e w' => e = .returned (.string (bstr l)) ∧ Below B w w' := by
  refine (Try.Builder_String_any B b (l.map fun x : Nat => UInt8.ofNat x) w h hBw).mono ?_
  rintro e w' ⟨rfl, hb⟩
  refine ⟨?_, hb⟩
  have : (⟨(l.map fun x : Nat => UInt8.ofNat x).toArray⟩ : ByteArray) = bstr l := bstr_of_data (by simp)
  rw [this]
/-- A builder in a later world. -/
theorem BldAt.below {B b : Nat} {l : List Nat} {w w' : World} (h : BldAt B b l w) (hb : Below w.heap.size w w') : BldAt B b l w' := by
  rcases h with h | h
  · have hlt := h.lt
    obtain ⟨h1, v, h2, h3, h4⟩ := h
    exact .inl ⟨h1, v, by rw [hb.block b hlt]; exact h2, own_below h3 hb, h4⟩
  · have hlt := h.lt
    obtain ⟨h1, v, h2, h3, h4⟩ := h
    exact .inr ⟨h1, v, by rw [hb.block b hlt]; exact h2, own_below h3 hb, h4⟩
theorem BldAt.start (w : World) : BldAt w.heap.size w.heap.size [] (w.alloc (.cells #[.pointer none, .slice none 0 0] 71)) := Lib.fresh_isBuilder _ _ w
end Go.Proofs.Ytakdcfjlhpponaa

/- The landed Do: an edit of a text. Conditions: no more than 2^30 bytes of text. -/
namespace Go.Proofs.Ytakdcfjlhpponaa
open Go.RowKit Go.Deep

/-- What is put behind the outcome for a part. -/
def doPiece (c : CompV) (there : List Nat) : List Nat := if c.kind = 1 then there else if c.kind = 2 then c.text else []
theorem there_eq {vs : List Nat} {l : List CompV} (hw : ∀ c ∈ l, Wh c) {i : Nat} (hi : i < l.length) : thereOf vs l i = (vs.take (sumT (l.take i) + l[i].n).toNat).drop (sumT (l.take i)).toNat := by
  have h1 : sumT (l.take i) = (inS (l.take i) : Int) := by rw [sumT, sumT_in _ _ fun c hc => hw c (List.mem_of_mem_take hc)]; omega
  have h2 := (hw _ (List.getElem_mem hi)).n
  rw [h1, h2, thereOf, List.take_succ_eq_append_getElem hi, inS_snoc, Int.toNat_natCast, show ((inS (l.take i) : Int) + (inN l[i] : Int)).toNat = inS (l.take i) + inN l[i] by omega, List.drop_take]
theorem doRun_step {vs : List Nat} {l : List CompV} (hw : ∀ c ∈ l, Wh c) {i : Nat} (hi : i < l.length) : (doRun vs (l.take (i + 1))).2 = (doRun vs (l.take i)).2 ++ doPiece l[i] (E (thereOf vs l i)) := by
  rw [there_eq hw hi, List.take_succ_eq_append_getElem hi, doRun_snoc, doStep, doRun_at, doPiece]
  split
  · rfl
  · split
    · rfl
    · simp

set_option maxHeartbeats 4000000 in
set_option maxRecDepth 100000 in
/-- What Do calls at each part. -/
theorem showDo (B g : Nat) (o T : List Nat) (y : CompV) (w : World) (h : BldAt B g o w) (hB : B ≤ w.heap.size) (hl : o.length + (doPiece y T).length ≤ 70368744177664) :
    Calls Try.prog 42 (#[.agg #[.int .i64 y.kind, .int .i64 y.n, .string (bstr y.text)], .string (bstr T)] ++ #[.pointer (some ⟨g, 0, none⟩)]) w fun e w' => e = .returned (.tuple #[]) ∧ BldAt B g (o ++ doPiece y T) w' ∧ Below B w w' := by
  obtain ⟨kd, n, tx⟩ := y
  have HH := Lib.hid h; clear h
  have hbw : ∀ o', Below B w (w.alloc o') := fun o' => (Below.refl _ _).alloc hB _
  have hbd : ∀ o', BldAt B g o (w.alloc o') := fun o' => HH.out.below ((Below.refl _ _).alloc (Nat.le_refl _) _)
  have HBW := Lib.hid hbw; clear hbw
  have HBD := Lib.hid hbd; clear hbd
  have HR := Lib.hid (part_row w kd n tx)
  have y0 : (w.alloc (.cells #[.int .i64 kd, .int .i64 n, .string (bstr tx)] 60)).cell? ⟨w.heap.size, 0, none⟩ = some (.int .i64 kd) := HR.out.cell (i := 0) (by omega)
  have y2 : (w.alloc (.cells #[.int .i64 kd, .int .i64 n, .string (bstr tx)] 60)).cell? ⟨w.heap.size, 2, none⟩ = some (.string (bstr tx)) := HR.out.cell (i := 2) (by omega)
  by_cases h1 : kd = 1
  · subst h1
    have GW := Lib.hid (writeString_any B g o T _ (HBD.out (.cells #[.int .i64 1, .int .i64 n, .string (bstr tx)] 60)) hl (by simp; omega))
    go_enter Try.func42, Try.ntmps42
    go_wp2_with fail
    refine GW.out.mono ?_
    rintro e w1 ⟨rfl, hd, hb⟩
    have HD := Lib.hid hd; clear hd
    have HB := Lib.hid hb; clear hb
    go_wp2
    go_end0
    exact ⟨rfl, HD.out, (HBW.out _).trans HB.out⟩
  · have g1 : (kd == 1) = false := beq_eq_false_iff_ne.2 h1
    by_cases h2 : kd = 2
    · subst h2
      have GW := Lib.hid (writeString_any B g o tx _ (HBD.out (.cells #[.int .i64 2, .int .i64 n, .string (bstr tx)] 60)) hl (by simp; omega))
      clear h1
      go_enter Try.func42, Try.ntmps42
      go_wp2_with fail
      refine GW.out.mono ?_
      rintro e w1 ⟨rfl, hd, hb⟩
      have HD := Lib.hid hd; clear hd
      have HB := Lib.hid hb; clear hb
      go_wp2
      go_end0
      exact ⟨rfl, HD.out, (HBW.out _).trans HB.out⟩
    · have g2 : (kd == 2) = false := beq_eq_false_iff_ne.2 h2
      have HP : Hid (doPiece ⟨kd, n, tx⟩ T = []) := by show _ = _; rw [doPiece, if_neg h1, if_neg h2]
      clear h1 h2
      go_enter Try.func42, Try.ntmps42
      go_wp2
      go_end0
      refine ⟨rfl, ?_, HBW.out _⟩
      rw [HP.out, List.append_nil]
      exact HBD.out _

/-- The builder behind some parts. -/
def DoInv (W : World) (t : List Nat) (l : List CompV) (i : Nat) (w : World) : Prop :=
  BldAt W.heap.size W.heap.size (doRun (cps t) (l.take i)).2 w ∧ Below W.heap.size W w
theorem piece_le (vs : List Nat) (l : List CompV) (i : Nat) : (E (thereOf vs l i)).length ≤ (E vs).length := by
  rw [thereOf]
  have h1 := E_take_len (vs.drop (inS (l.take i))) (inS (l.take (i + 1)) - inS (l.take i))
  have h2 := E_split vs (inS (l.take i))
  have h3 := congrArg List.length h2
  rw [List.length_append] at h3
  omega
set_option maxHeartbeats 4000000 in
set_option maxRecDepth 100000 in
theorem apDo_walk (t : List Nat) (A : Option Addr) (c : Nat) (l : List CompV) (hb : ∀ x ∈ t, x < 256) (htl : t.length ≤ 1073741824) (hl : l.length ≤ maxLen) (hf : Fine1 l) (htt : tlen l ≤ 1073741824) (w : World) (hc : CompsAt w A l) :
    Calls Try.prog 41 #[.string (bstr t), .slice A l.length c, .func (.func 42) #[] #[.pointer (some ⟨w.heap.size, 0, none⟩)]] (w.alloc (.cells #[.pointer none, .slice none 0 0] 71)) fun e w' => WalkEnd (DoInv w t l) t l e w' :=
  apWalk_any 42 (enters_of_func Try.func42 (by kernel_rfl) rfl) _ t hb htl A c l hl hf (DoInv w t l)
    (fun i w1 w2 h hbel => ⟨h.1.below hbel, h.2.trans (hbel.mono h.2.size)⟩) (fun i w1 h => hc.below h.2)
    (fun hz vs hv hn i w1 hi h => by
      have hok := ok_of hz
      have hcp := cps_of hv
      refine (showDo w.heap.size w.heap.size _ (E (thereOf vs l i)) l[i] w1 h.1 h.2.size ?_).mono ?_
      · have h1 := doRun_len (cps t) (by rw [hcp, hv.bytes]; exact htl) (l.take i)
        have h2 := tlen_take l i
        have h4 : (l.take i).length ≤ 100 := by rw [List.length_take]; have := hok.len; omega
        have h5 : (l.take i).length * 1073741824 ≤ 100 * 1073741824 := Nat.mul_le_mul_right _ h4
        have h6 : (doPiece l[i] (E (thereOf vs l i))).length ≤ 1099511627776 := by
          rw [doPiece]
          split
          · have := piece_le vs l i; rw [hv.bytes] at this; omega
          · split
            · exact (hf _ (List.getElem_mem hi)).2
            · simp
        omega
      · rintro e w2 ⟨rfl, hd, hbel⟩
        refine ⟨rfl, ?_, h.2.trans hbel⟩
        rw [hcp] at hd ⊢
        rw [doRun_step hok.wh hi]
        exact hd)
    _ ⟨by simpa [doRun] using BldAt.start w, (Below.refl _ _).alloc (Nat.le_refl _) _⟩
set_option maxHeartbeats 4000000 in
set_option maxRecDepth 100000 in
theorem apDo_any (t : List Nat) (A : Option Addr) (c : Nat) (l : List CompV) (hb : ∀ x ∈ t, x < 256) (htl : t.length ≤ 1073741824) (hl : l.length ≤ maxLen) (hf : Fine1 l) (htt : tlen l ≤ 1073741824) (w : World) (hc : CompsAt w A l) :
    Calls Try.prog 15 #[.string (bstr t), .slice A l.length c] w fun e w' => DoEnd t l e ∧ Below w.heap.size w w' := by
  have HW := Lib.hid (apDo_walk t A c l hb htl hl hf htt w hc)
  have hmf : ∀ (fn : Fn) (first cap : Array Value) (w : World), (Instr.makeFunc fn first cap).run Try.prog w = .ok (.func fn first cap) w := fun _ _ _ _ => rfl
  have HS := Lib.hid (fun o w1 (h : BldAt w.heap.size w.heap.size o w1) h2 => bldString_any w.heap.size w.heap.size o w1 h h2)
  clear hb hf hc
  go_enter Try.func15, Try.ntmps15
  go_wp2_with fail
  refine HW.out.mono ?_
  clear HW
  rintro e w1 (⟨hz, rfl, hi⟩ | ⟨hz, hv, rfl, hi⟩ | ⟨hz, vs, hv, (⟨hne, rfl, hi⟩ | ⟨heq, rfl, hi⟩)⟩)
  · have HI := Lib.hid hi; clear hi
    have HEND : Hid (DoEnd t l (.returned (.tuple #[.string (bstr []), .int .i64 (rCheck l : Int)]))) := .inl ⟨hz, rfl⟩
    clear hz
    go_wp2_with fail
    refine (HS.out _ w1 HI.out.1 HI.out.2.size).mono ?_
    rintro e w2 ⟨rfl, hb2⟩
    have HB2 : Hid (Below w.heap.size w w2) := HI.out.2.trans hb2
    clear hb2
    go_wp2
    go_ret2
    exact ⟨HEND.out, HB2.out⟩
  · have HI := Lib.hid hi; clear hi
    have HEND : Hid (DoEnd t l (.returned (.tuple #[.string (bstr []), .int .i64 2]))) := .inr (.inl ⟨hz, hv, rfl⟩)
    clear hz hv
    go_wp2_with fail
    refine (HS.out _ w1 HI.out.1 HI.out.2.size).mono ?_
    rintro e w2 ⟨rfl, hb2⟩
    have HB2 : Hid (Below w.heap.size w w2) := HI.out.2.trans hb2
    clear hb2
    go_wp2
    go_ret2
    exact ⟨HEND.out, HB2.out⟩
  · have HI := Lib.hid hi; clear hi
    have HEND : Hid (DoEnd t l (.returned (.tuple #[.string (bstr []), .int .i64 11]))) := .inr (.inr ⟨hz, vs, hv, .inl ⟨hne, rfl⟩⟩)
    clear hz hv hne
    go_wp2_with fail
    refine (HS.out _ w1 HI.out.1 HI.out.2.size).mono ?_
    rintro e w2 ⟨rfl, hb2⟩
    have HB2 : Hid (Below w.heap.size w w2) := HI.out.2.trans hb2
    clear hb2
    go_wp2
    go_ret2
    exact ⟨HEND.out, HB2.out⟩
  · have hb1 := hi.1
    rw [List.take_length, cps_of hv] at hb1
    have HI := Lib.hid hi; clear hi
    have HB1 := Lib.hid hb1; clear hb1
    have HEND : Hid (DoEnd t l (.returned (.tuple #[.string (bstr (doRun vs l).2), .int .i64 0]))) := .inr (.inr ⟨hz, vs, hv, .inr ⟨heq, rfl⟩⟩)
    clear hz hv heq
    go_wp2_with fail
    refine (HS.out _ w1 HB1.out HI.out.2.size).mono ?_
    rintro e w2 ⟨rfl, hb2⟩
    have HB2 : Hid (Below w.heap.size w w2) := HI.out.2.trans hb2
    clear hb2
    go_wp2
    go_ret2
    exact ⟨HEND.out, HB2.out⟩
end Go.Proofs.Ytakdcfjlhpponaa

/- The landed Undo: what undoes an edit of a text. Conditions: no more than 2^30 bytes of text. -/
namespace Go.Proofs.Ytakdcfjlhpponaa
open Go.RowKit Go.Deep

/-- What is put behind the undoing for a part. -/
def undoPiece (c : CompV) (there : List Nat) : CompV := if c.kind = 1 then c else if c.kind = 2 then ⟨3, (loose c.text : Int), []⟩ else ⟨2, 0, there⟩
theorem undoRun_step {vs : List Nat} {l : List CompV} (hw : ∀ c ∈ l, Wh c) {i : Nat} (hi : i < l.length) : (undoRun vs (l.take (i + 1))).2 = (undoRun vs (l.take i)).2 ++ [undoPiece l[i] (E (thereOf vs l i))] := by
  rw [there_eq hw hi, List.take_succ_eq_append_getElem hi, undoRun_snoc, undoStep, undoRun_at, undoPiece]
  split
  · rfl
  · split <;> rfl

/-- Block g holds a row of parts of the call's own. -/
def BackAt (g : Nat) (l : List CompV) (w : World) : Prop :=
  ∃ A c, w.rowIs g 22 1 (fun _ => .slice A l.length c) ∧ w.ownsRow g 60 3 (.slice A l.length c) l.length (l.flatMap compCells)
theorem BackAt.below {g : Nat} {l : List CompV} {w w' : World} (h : BackAt g l w) (hb : Below w.heap.size w w') : BackAt g l w' := by
  obtain ⟨A, c, h1, h2⟩ := h
  exact ⟨A, c, h1.of_block (hb.block g h1.lt), own_below h2 hb⟩
theorem BackAt.start (w : World) : BackAt w.heap.size [] (w.alloc (.cells #[.slice none 0 0] 22)) :=
  ⟨none, 0, World.rowIs_alloc w #[.slice none 0 0] 22 (fun _ => .slice none 0 0) (fun i hi => by simp at hi; subst hi; rfl), by simpa using World.ownsRow_nil _ _ _ _⟩
/-- One part more. -/
theorem BackAt.push {g : Nat} {l l' : List CompV} {A A' : Option Addr} {c c' : Nat} {w w' : World} (h1 : w.rowIs g 22 1 (fun _ => .slice A l.length c)) (h2 : w.ownsRow g 60 3 (.slice A l.length c) l.length (l.flatMap compCells))
    {X : Obj} (hg : (w.alloc X).grownBy w' (Value.slice A l.length c).ownBlock) (ho : w'.ownsRow g 60 3 (.slice A' l'.length c') l'.length (l'.flatMap compCells)) :
    w'.frozen? ⟨g, 0, none⟩ = false ∧ BackAt g l' (w'.setCell ⟨g, 0, none⟩ (.slice A' l'.length c')) ∧ Below g w (w'.setCell ⟨g, 0, none⟩ (.slice A' l'.length c')) ∧ (∃ v, w'.cell? ⟨g, 0, none⟩ = some v) := by
  have hlt := h1.lt
  have hr : w'.rowIs g 22 1 (fun _ => .slice A l.length c) := (h1.alloc X).of_block (hg.block g (by simp; omega) (fun e => by
    rcases h2.2 with ⟨h0, _⟩ | ⟨g2, cap2, cur2, h0, _, hh2, _⟩
    · rw [h0] at e; simp [Value.ownBlock] at e
    · rw [h0] at e; simp [Value.ownBlock] at e
      subst e
      obtain ⟨cc, hcc, _⟩ := h1
      rw [hh2] at hcc
      injection hcc with hcc
      injection hcc with _ hcc
      exact absurd hcc (by decide)))
  refine ⟨hr.frozen 0, ⟨A', c', (hr.set 0 _).congr fun i hi => by rw [if_pos (by omega)], ?_⟩, ((((Below.refl g w).alloc (by omega) X).grown hg (by simp; omega) (fun k hk => (h2.lt k hk).1)).setCell (Nat.le_refl _) _), ⟨_, hr.cell (i := 0) (by omega)⟩⟩
  exact own_only_type ho hr (by decide) ⟨rfl, rfl, rfl, by simp [World.setCell], fun k hk hkg => Below.heap_setCell _ _ _ _ (fun e => hkg (by simp [e]))⟩

end Go.Proofs.Ytakdcfjlhpponaa

/- What Do and Undo answer, as functions of what came in; the document's own and the landed ones both answer so. Conditions: no more than 2^30 bytes of text. -/
namespace Go.Proofs.Ytakdcfjlhpponaa
open Go.RowKit Go.Deep
open Classical in
/-- Do's error. -/
noncomputable def dErr (t : List Nat) (l : List CompV) : Nat := if rCheck l ≠ 0 then rCheck l else if ¬ ∃ vs, V t vs then 2 else if ((cps t).length : Int) ≠ rBase l then 11 else 0
/-- Do's text. -/
noncomputable def dTxt (t : List Nat) (l : List CompV) : List Nat := if dErr t l = 0 then (doRun (cps t) l).2 else []
/-- Undo's edit. -/
noncomputable def uOut (t : List Nat) (l : List CompV) : List CompV := if dErr t l = 0 then rNormal (undoRun (cps t) l).2 else []

theorem dErr_check {t : List Nat} {l : List CompV} (h : rCheck l ≠ 0) : dErr t l = rCheck l := by rw [dErr, if_pos h]
theorem dErr_bad {t : List Nat} {l : List CompV} (h : rCheck l = 0) (hv : ¬ ∃ vs, V t vs) : dErr t l = 2 := by rw [dErr, if_neg (by simp [h]), if_pos hv]
theorem dErr_text {t vs : List Nat} {l : List CompV} (h : rCheck l = 0) (hv : V t vs) (hn : (vs.length : Int) ≠ rBase l) : dErr t l = 11 := by
  rw [dErr, if_neg (by simp [h]), if_neg (fun hh => hh ⟨vs, hv⟩), cps_of hv, if_pos hn]
theorem dErr_ok {t vs : List Nat} {l : List CompV} (h : rCheck l = 0) (hv : V t vs) (hn : (vs.length : Int) = rBase l) : dErr t l = 0 := by
  rw [dErr, if_neg (by simp [h]), if_neg (fun hh => hh ⟨vs, hv⟩), cps_of hv, if_neg (by simp [hn])]
theorem dErr_zero {t : List Nat} {l : List CompV} (h : dErr t l = 0) : rCheck l = 0 ∧ ∃ vs, V t vs ∧ (vs.length : Int) = rBase l := by
  by_cases h1 : rCheck l = 0
  · by_cases h2 : ∃ vs, V t vs
    · obtain ⟨vs, hv⟩ := h2
      by_cases h3 : (vs.length : Int) = rBase l
      · exact ⟨h1, vs, hv, h3⟩
      · rw [dErr_text h1 hv h3] at h; cases h
    · rw [dErr_bad h1 h2] at h; cases h
  · rw [dErr_check h1] at h; exact absurd h h1
theorem DoEnd.eq {t : List Nat} {l : List CompV} {e : Ending} (h : DoEnd t l e) : e = .returned (.tuple #[.string (bstr (dTxt t l)), .int .i64 (dErr t l : Int)]) := by
  rcases h with ⟨hz, rfl⟩ | ⟨hz, hv, rfl⟩ | ⟨hz, vs, hv, ⟨hne, rfl⟩ | ⟨heq, rfl⟩⟩
  · rw [dTxt, dErr_check hz, if_neg hz]; rfl
  · rw [dTxt, dErr_bad hz hv, if_neg (by decide)]; rfl
  · rw [dTxt, dErr_text hz hv hne, if_neg (by decide)]; rfl
  · rw [dTxt, dErr_ok hz hv heq, if_pos rfl, cps_of hv]; rfl
/-- What is told of Undo. -/
def UEnd (t : List Nat) (l : List CompV) (w : World) (e : Ending) (w' : World) : Prop :=
  ∃ A c, e = .returned (.tuple #[.slice A (uOut t l).length c, .int .i64 (dErr t l : Int)]) ∧ w'.ownsRow w.heap.size 60 3 (.slice A (uOut t l).length c) (uOut t l).length ((uOut t l).flatMap compCells)
theorem own_nil (w w' : World) : w'.ownsRow w.heap.size 60 3 (.slice none ([] : List CompV).length 0) ([] : List CompV).length (([] : List CompV).flatMap compCells) := World.ownsRow_nil _ _ _ _
theorem UndoEnd.fn {t : List Nat} {l : List CompV} {w w' : World} {e : Ending} (h : UndoEnd t l w e w') : UEnd t l w e w' := by
  rcases h with ⟨hz, rfl⟩ | ⟨hz, hv, rfl⟩ | ⟨hz, vs, hv, ⟨hne, rfl⟩ | ⟨heq, A, c, rfl, ho⟩⟩
  · rw [UEnd, uOut, dErr_check hz, if_neg hz]; exact ⟨none, 0, rfl, own_nil w w'⟩
  · rw [UEnd, uOut, dErr_bad hz hv, if_neg (by decide)]; exact ⟨none, 0, rfl, own_nil w w'⟩
  · rw [UEnd, uOut, dErr_text hz hv hne, if_neg (by decide)]; exact ⟨none, 0, rfl, own_nil w w'⟩
  · rw [UEnd, uOut, dErr_ok hz hv heq, if_pos rfl, cps_of hv]; exact ⟨A, c, rfl, ho⟩
theorem rNormal_nil : rNormal [] = [] := by rfl
end Go.Proofs.Ytakdcfjlhpponaa
