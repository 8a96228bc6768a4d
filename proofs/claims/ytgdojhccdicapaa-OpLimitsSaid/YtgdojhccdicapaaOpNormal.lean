/- The landed Normal: the normal form of an edit. Condition: no more than 2^30 parts, no more than 2^40 bytes of texts. -/
import Derived.Test.YtgdojhccdicapaaOpEnd
import Derived.Test.YtgdojhccdicapaaUtfWalks
import Derived.WalkMore
namespace Go.Proofs.Ytgdojhccdicapaa
open Go.RowKit Go.Deep Go.Lib

theorem wp_scope_three {P : Program} {c r0 r1 r2 : Code} {a : Act} {w : World} {Q : Exit → Act → World → Prop} (J : Nat → Act → World → Prop) (μ : Nat → Act → Nat)
    (hJ : ∀ l a w, J l a w → l < 3) (h0 : findLabel c 0 = some (Code.skip.seq r0)) (h1 : findLabel c 1 = some (Code.skip.seq r1)) (h2 : findLabel c 2 = some (Code.skip.seq r2))
    (p0 : Pass P r0 J μ Q 0) (p1 : Pass P r1 J μ Q 1) (p2 : Pass P r2 J μ Q 2)
    (first : Pass P r1 J μ Q 1 → ∃ n, c.wp P (down J μ n Q) a w) : (Code.scope c).wp P Q a w := by
  have pass : ∀ l a w, J l a w → ∃ r, findLabel c l = some r ∧ r.wp P (down J μ (μ l a) Q) a w := by
    intro l a w hl
    have := hJ l a w hl
    match l, this with
    | 0, _ => exact ⟨_, h0, skip_seq (p0 a w hl)⟩
    | 1, _ => exact ⟨_, h1, skip_seq (p1 a w hl)⟩
    | 2, _ => exact ⟨_, h2, skip_seq (p2 a w hl)⟩
  obtain ⟨n, hn⟩ := first p1
  intro b k cs
  have key : ∀ n l a w, μ l a = n → J l a w → ∃ rest, findLabel c l = some rest ∧ ∃ e a' w', Q e a' w' ∧ Arrives P (lone (b.at a (.code rest :: .inScope c :: k)) cs w) b k cs e a' w' := by
    intro n
    induction n using Nat.strongRecOn with
    | _ n ih =>
      intro l a w hn hl
      obtain ⟨rest, hf, hp⟩ := pass l a w hl
      refine ⟨rest, hf, ?_⟩
      obtain ⟨e, a₁, w₁, hq, harr⟩ := hp b (.inScope c :: k) cs
      unfold down at hq
      cases e with
      | normal => exact ⟨.normal, a₁, w₁, hq, Steps.trans harr (.one step_inScope)⟩
      | exit id => exact ⟨.exit id, a₁, w₁, hq, fun k' hk => harr k' (by simp [exitTo, hk])⟩
      | goto l' =>
        obtain ⟨hJ', hlt⟩ := hq
        obtain ⟨rest', hf', e₂, a₂, w₂, hq₂, harr₂⟩ := ih _ (by omega) l' a₁ w₁ rfl hJ'
        have hg : gotoIn l' (.inScope c :: k) = some (.code rest' :: .inScope c :: k) := by simp [gotoIn, hf']
        exact ⟨e₂, a₂, w₂, hq₂, .of_steps (harr _ hg) harr₂⟩
      | ret => exact ⟨_, a₁, w₁, hq, harr⟩
      | panic ch => exact ⟨_, a₁, w₁, hq, harr⟩
      | outgrown => exact ⟨_, a₁, w₁, hq, harr⟩
  obtain ⟨e, a₁, w₁, hq, harr⟩ := hn b (.inScope c :: k) cs
  unfold down at hq
  cases e with
  | normal => exact ⟨.normal, a₁, w₁, hq, .head step_scope (Steps.trans harr (.one step_inScope))⟩
  | exit id => exact ⟨.exit id, a₁, w₁, hq, fun k' hk => .head step_scope (harr k' (by simp [exitTo, hk]))⟩
  | goto l' =>
    obtain ⟨hJ', _⟩ := hq
    obtain ⟨rest', hf', e₂, a₂, w₂, hq₂, harr₂⟩ := key _ l' a₁ w₁ rfl hJ'
    have hg : gotoIn l' (.inScope c :: k) = some (.code rest' :: .inScope c :: k) := by simp [gotoIn, hf']
    exact ⟨e₂, a₂, w₂, hq₂, .of_steps (.head step_scope (harr _ hg)) harr₂⟩
  | ret => exact ⟨_, a₁, w₁, hq, .of_steps (.one step_scope) harr⟩
  | panic ch => exact ⟨_, a₁, w₁, hq, .of_steps (.one step_scope) harr⟩
  | outgrown => exact ⟨_, a₁, w₁, hq, .of_steps (.one step_scope) harr⟩

/-- A frame of Normal. -/
def NFr (a : Act) (L : Value) (g k : Nat) (o : Value) : Prop :=
  a.defers = [] ∧ a.tmps.size = 52 ∧ a.tmps[0]? = some (L) ∧ a.tmps[3]? = some (o) ∧ a.tmps[4]? = some (.pointer (some ⟨g, 0, none⟩)) ∧ a.tmps[5]? = some (.pointer (some ⟨g + 1, 0, none⟩)) ∧ a.tmps[6]? = some (.int .i64 (k : Int))
theorem NFr.out {a : Act} {L : Value} {g k : Nat} {o : Value} (h : NFr a L g k o) : ∃ f : Nat → Value, a = { tmps := #[L, f 1, f 2, o, .pointer (some ⟨g, 0, none⟩), .pointer (some ⟨g + 1, 0, none⟩), .int .i64 (k : Int), f 7, f 8, f 9, f 10, f 11, f 12, f 13, f 14, f 15, f 16, f 17, f 18, f 19, f 20, f 21, f 22, f 23, f 24, f 25, f 26, f 27, f 28, f 29, f 30, f 31, f 32, f 33, f 34, f 35, f 36, f 37, f 38, f 39, f 40, f 41, f 42, f 43, f 44, f 45, f 46, f 47, f 48, f 49, f 50, f 51], defers := [] } := by
  obtain ⟨t, d⟩ := a
  obtain ⟨rfl, hs, h0, h3, h4, h5, h6⟩ := h
  simp only at hs h0 h3 h4 h5 h6
  refine ⟨fun n => (t[n]?).getD undef, ?_⟩
  have e : t = ((List.range 52).map fun i => (t[i]?).getD undef).toArray := by
    apply Array.ext
    · simp [hs]
    · intro i h1 h2
      simp [h1]
  have e2 : ((List.range 52).map fun i => (t[i]?).getD undef).toArray = #[(t[0]?).getD undef, (t[1]?).getD undef, (t[2]?).getD undef, (t[3]?).getD undef, (t[4]?).getD undef, (t[5]?).getD undef, (t[6]?).getD undef, (t[7]?).getD undef, (t[8]?).getD undef, (t[9]?).getD undef, (t[10]?).getD undef, (t[11]?).getD undef, (t[12]?).getD undef, (t[13]?).getD undef, (t[14]?).getD undef, (t[15]?).getD undef, (t[16]?).getD undef, (t[17]?).getD undef, (t[18]?).getD undef, (t[19]?).getD undef, (t[20]?).getD undef, (t[21]?).getD undef, (t[22]?).getD undef, (t[23]?).getD undef, (t[24]?).getD undef, (t[25]?).getD undef, (t[26]?).getD undef, (t[27]?).getD undef, (t[28]?).getD undef, (t[29]?).getD undef, (t[30]?).getD undef, (t[31]?).getD undef, (t[32]?).getD undef, (t[33]?).getD undef, (t[34]?).getD undef, (t[35]?).getD undef, (t[36]?).getD undef, (t[37]?).getD undef, (t[38]?).getD undef, (t[39]?).getD undef, (t[40]?).getD undef, (t[41]?).getD undef, (t[42]?).getD undef, (t[43]?).getD undef, (t[44]?).getD undef, (t[45]?).getD undef, (t[46]?).getD undef, (t[47]?).getD undef, (t[48]?).getD undef, (t[49]?).getD undef, (t[50]?).getD undef, (t[51]?).getD undef] := rfl
  simp only [h0, h3, h4, h5, h6, Option.getD_some] at e2
  rw [← e2, ← e]
attribute [irreducible] NFr
theorem NFr.mk {t : Array Value} {L : Value} {g k : Nat} {o : Value} (h : t.size = 52 ∧ t[0]? = some (L) ∧ t[3]? = some (o) ∧ t[4]? = some (.pointer (some ⟨g, 0, none⟩)) ∧ t[5]? = some (.pointer (some ⟨g + 1, 0, none⟩)) ∧ t[6]? = some (.int .i64 (k : Int))) : NFr { tmps := t, defers := [] } L g k o := by
  unfold NFr
  exact ⟨rfl, h⟩
theorem NFr.at6 {a : Act} {L : Value} {g k : Nat} {o : Value} (h : NFr a L g k o) : a.tmps.getD 6 undef = .int .i64 (k : Int) := by
  obtain ⟨f, rfl⟩ := h.out
  rfl

/-- The cells of a part. -/
def cmCells (kd n : Int) (t : List Nat) (i : Nat) : Value := if i = 0 then .int .i64 kd else if i = 1 then .int .i64 n else .string (bstr t)
/-- What holds at each label: 0: end, 1: next, 2: retain. -/
def NJ (W : World) (L : Value) (l : List CompV) : Nat → Act → World → Prop
  | 1, a, w => ∃ k o kd n t, NFr a L W.heap.size k o ∧ k ≤ l.length ∧ NowAt W.heap.size (W.heap.size + 2) (nRun (l.take k)) o w ∧ w.rowIs (W.heap.size + 1) 35 3 (cmCells kd n t) ∧ Below W.heap.size W w
  | 0, a, w => ∃ o, NFr a L W.heap.size l.length o ∧ NowAt W.heap.size (W.heap.size + 2) (nRun l) o w ∧ Below W.heap.size W w
  | 2, a, w => ∃ k o n t, NFr a L W.heap.size (k + 1) o ∧ k < l.length ∧ l[k]? = some ⟨1, n, t⟩ ∧ 0 < n ∧ NowAt W.heap.size (W.heap.size + 2) (nRun (l.take k)) o w ∧ w.rowIs (W.heap.size + 1) 35 3 (cmCells 1 n t) ∧ Below W.heap.size W w
  | _, _, _ => False
def Nμ (len : Nat) : Nat → Act → Nat
  | 1, a => 2 * (len - (RowKit.intOf (a.tmps.getD 6 undef)).toNat) + 1
  | 2, a => 2 * (len - (RowKit.intOf (a.tmps.getD 6 undef)).toNat) + 2
  | _, _ => 0
theorem Nμ1 {len : Nat} {a : Act} {L : Value} {g k : Nat} {o : Value} (h : NFr a L g k o) : Nμ len 1 a = 2 * (len - k) + 1 := by
  show 2 * (len - (RowKit.intOf (a.tmps.getD 6 undef)).toNat) + 1 = _
  rw [h.at6]; simp [RowKit.intOf]
theorem Nμ2 {len : Nat} {a : Act} {L : Value} {g k : Nat} {o : Value} (h : NFr a L g k o) : Nμ len 2 a = 2 * (len - k) + 2 := by
  show 2 * (len - (RowKit.intOf (a.tmps.getD 6 undef)).toNat) + 2 = _
  rw [h.at6]; simp [RowKit.intOf]
theorem Nμ0 {len : Nat} {a : Act} : Nμ len 0 a = 0 := rfl

theorem NowAt.other {g B g' : Nat} {s : NS} {o : Value} {w : World} (h : NowAt g B s o w) (hne : g ≠ g') (hlt : g' < B) (i : Nat) (v : Value) : NowAt g B s o (w.setCell ⟨g', i, none⟩ v) := by
  obtain ⟨h1, h2, ⟨A, c, hr, ht⟩, ho⟩ := h
  exact ⟨h1, by simpa [World.setCell] using h2, ⟨A, c, hr.setOther hne v, own_set_below ht hlt _ _⟩, own_set_below ho hlt _ _⟩
theorem bytes_str (l : List Nat) (hb : ∀ x ∈ l, x < 256) : strCells (bstr l) = u8s l := by
  unfold strCells u8s
  rw [bstr_data, List.map_map]
  refine List.map_congr_left fun x hx => ?_
  have := hb x hx
  simp
  omega
/-- The part is read into the block of its own. -/
theorem cm_chain {w : World} {b : Nat} {k0 n0 : Int} {t0 : List Nat} (h : w.rowIs b 35 3 (cmCells k0 n0 t0)) (kd n : Int) (t : List Nat) :
    (((w.setCell ⟨b, 0, none⟩ (.int .i64 kd)).setCell ⟨b, 1, none⟩ (.int .i64 n)).setCell ⟨b, 2, none⟩ (.string (bstr t))).rowIs b 35 3 (cmCells kd n t) :=
  (((h.set 0 (.int .i64 kd)).set 1 (.int .i64 n)).set 2 (.string (bstr t))).congr fun i hi => by
    rcases (show i = 0 ∨ i = 1 ∨ i = 2 by omega) with rfl | rfl | rfl <;> rfl

theorem NowAt.start (w : World) : NowAt w.heap.size (w.heap.size + 2) nStart (.slice none 0 0) ((w.alloc (.cells #[.int .i64 0, .slice none 0 0, .int .i64 0] 48)).alloc (.cells #[.int .i64 0, .int .i64 0, .string { data := #[] }] 35)) := by
  refine ⟨by omega, by simp, ⟨none, 0, (World.rowIs_alloc w _ _ _ (fun i hi => ?_)).alloc _, World.ownsRow_nil _ _ _ _⟩, World.ownsRow_nil _ _ _ _⟩
  rcases (show i = 0 ∨ i = 1 ∨ i = 2 by simp at hi; omega) with rfl | rfl | rfl <;> rfl
theorem cm_start (w : World) : ((w.alloc (.cells #[.int .i64 0, .slice none 0 0, .int .i64 0] 48)).alloc (.cells #[.int .i64 0, .int .i64 0, .string { data := #[] }] 35)).rowIs (w.heap.size + 1) 35 3 (cmCells 0 0 []) := by
  have h := World.rowIs_alloc (w.alloc (.cells #[.int .i64 0, .slice none 0 0, .int .i64 0] 48)) #[.int .i64 0, .int .i64 0, .string { data := #[] }] 35 (cmCells 0 0 []) (fun i hi => by
    rcases (show i = 0 ∨ i = 1 ∨ i = 2 by simp at hi; omega) with rfl | rfl | rfl <;> rfl)
  rwa [show (w.alloc (.cells #[.int .i64 0, .slice none 0 0, .int .i64 0] 48)).heap.size = w.heap.size + 1 by simp] at h

set_option maxHeartbeats 8000000 in
set_option maxRecDepth 100000 in
theorem opNormal_any (A : Option Addr) (c : Nat) (l : List CompV) (hl : l.length ≤ 1073741824) (ht : tlen l ≤ 1099511627776) (hgood : ∀ y ∈ l, y.Good) (w : World) (hc : CompsAt w A l) :
    Calls Try.prog 12 #[.slice A l.length c] w fun e w' => ∃ A' c', e = .returned (.slice A' (rNormal l).length c') ∧ w'.ownsRow w.heap.size 35 3 (.slice A' (rNormal l).length c') (rNormal l).length ((rNormal l).flatMap compCells) ∧ Below w.heap.size w w' := by
  have HC := Lib.hid hc; clear hc
  have HTL := Lib.hid ht; clear ht
  have HGD := Lib.hid hgood; clear hgood
  have HFIT : Hid (∀ k, (nRun (l.take k)).out.length ≤ 3221225472 ∧ (nRun (l.take k)).text.length ≤ tlen (l.take k) ∧ 0 ≤ (nRun (l.take k)).keep ∧ (nRun (l.take k)).keep ≤ 1099511627776 ∧ 0 ≤ (nRun (l.take k)).gone ∧ (nRun (l.take k)).gone ≤ 1099511627776) := fun k => by
    have h := run_fit (l.take k)
    exact ⟨Nat.le_trans h.out (by rw [List.length_take]; omega), h.text, h.keep0, h.keep1, h.gone0, h.gone1⟩
  obtain ⟨g, HG⟩ : ∃ x, Hid (w.heap.size = x) := ⟨_, rfl⟩
  go_enter Try.func12, Try.ntmps12
  go_wp2
  refine wp_scope_three (NJ w (.slice A l.length c) l) (Nμ l.length) ?hJ rfl rfl rfl ?p0 ?p1 ?p2 ?first
  case hJ =>
    intro j a w h
    match j, h with
    | 0, _ => omega
    | 1, _ => omega
    | 2, _ => omega
    | (n + 3), h => exact h.elim
  case p0 =>
    rintro a w1 ⟨o, hf, hn, hb⟩
    rw [Nμ0]
    have HN := Lib.hid hn; clear hn
    have HB := Lib.hid hb; clear hb
    have hfit := HFIT.out l.length
    rw [List.take_length] at hfit
    have GE := Lib.hid (opEnd_any w.heap.size (w.heap.size + 2) (nRun l) o (by omega) (by have := HTL.out; omega) w1 HN.out)
    clear hfit
    rw [HG.out] at hf GE
    obtain ⟨f, rfl⟩ := hf.out
    clear hf
    go_wp2_with fail
    refine GE.out.mono ?_
    rintro e w2 ⟨o2, rfl, hn2, ha2⟩
    have HN2 := Lib.hid hn2
    have HA2 := Lib.hid ha2
    clear hn2 ha2
    obtain ⟨A2, c2, ho2⟩ := HN2.out.out
    have HO2 := Lib.hid ho2; clear ho2
    go_wp2
    rw [down_ret]
    go_ret
    refine ⟨A2, c2, ?_, ?_, ?_⟩
    · rw [HO2.out]; rfl
    · have := HN2.out.row
      rw [HO2.out] at this
      exact own_base this (by have := HG.out; omega)
    · have h := HA2.out.below HB.out (by have := HG.out; omega) (by have := HG.out; omega)
      exact h
  case p2 =>
    rintro a w1 ⟨k, o, n, t, hf, hk, hget, hn0, hn, hr, hb⟩
    rw [Nμ2 hf]
    obtain ⟨m, HM⟩ : ∃ m, Hid (m = 2 * (l.length - (k + 1)) + 2) := ⟨_, rfl⟩
    rw [← HM.out]
    have HB := Lib.hid hb; clear hb
    have hfit := HFIT.out k
    have HNX : Hid (nRun (l.take (k + 1)) = nStep (nRun (l.take k)) ⟨1, n, t⟩) := by
      show _ = _
      rw [List.take_succ_eq_append_getElem hk, nRun_snoc, (List.getElem?_eq_some_iff.1 hget).2]
    rw [nStep, if_neg (by simp), if_neg (by simp), if_neg (by simp only; omega)] at HNX
    have HFT : Hid ((nRun (l.take k)).text.length ≤ 1099511627776) := by show _ ≤ _; have := tlen_take l k; have := HTL.out; omega
    rw [HG.out] at hf hn hr
    obtain ⟨s, HS⟩ : ∃ x, Hid (nRun (l.take k) = x) := ⟨_, rfl⟩
    rw [HS.out] at hn hfit HNX HFT
    obtain ⟨hf1, _, hf3, hf4, hf5, hf6⟩ := hfit
    have HKS := Lib.hid (fun w => opSum_any s.keep n hf3 hf4 w)
    have HK0 := Lib.hid (fun w => opSum_any 0 n (by omega) (by omega) w)
    have GB := Lib.hid (opBare_any g (g + 2) s o hf5 w1 hn)
    have GE := Lib.hid (opEnd_any g (g + 2) s o (by omega) HFT.out w1 hn)
    obtain ⟨q, HQ⟩ : ∃ q, Hid (hld s.keep n = q) := ⟨_, Lib.hid rfl⟩
    obtain ⟨q0, HQ0⟩ : ∃ q, Hid (hld 0 n = q) := ⟨_, Lib.hid rfl⟩
    simp only [HQ.out, HQ0.out] at HNX
    rw [HQ.out] at HKS
    rw [HQ0.out] at HK0
    obtain ⟨A1, c1, z0, z1, z2, y0, y1, y2, ht1, hr1⟩ := hn.read
    have d1 := hr.cell (i := 1) (by omega)
    replace d1 : World.cell? _ ⟨g + 1, 1, none⟩ = some (.int .i64 n) := d1
    have HN := Lib.hid hn; have HR := Lib.hid hr
    obtain ⟨f, rfl⟩ := hf.out
    clear hf hn hr ht1 hr1 hf1 hf3 hf4 hf6 hn0 hget z1 z2 y1 y2
    by_cases hbare : s.text = [] ∧ s.gone = 0
    · rw [if_neg (fun h => by rcases h with h | h; exact h hbare.1; omega)] at HNX
      rw [decide_eq_true hbare] at GB
      clear hbare hf5
      go_wp2_with fail
      refine GB.out.mono ?_
      rintro e w2 ⟨rfl, rfl⟩
      go_wp2_with fail
      refine (HKS.out _).mono ?_
      rintro e w2 ⟨rfl, rfl⟩
      go_wp2
      go_step3
      rw [then_goto, down_goto, Nμ1 (L := .slice A l.length c) (g := g) (k := k + 1) (o := o) (NFr.mk ⟨rfl, rfl, rfl, rfl, rfl, rfl⟩)]
      exact ⟨⟨k + 1, o, 1, n, t, HG.out ▸ NFr.mk ⟨rfl, rfl, rfl, rfl, rfl, rfl⟩, by omega, by rw [HNX.out, HG.out]; exact HN.out.setKeep q, by rw [HG.out]; exact HR.out.setOther (a := ⟨g, 0, none⟩) (by show g + 1 ≠ g; omega) _, HB.out.setCell (by have := HG.out; show _ ≤ g; omega) _⟩, by have := HM.out; omega⟩
    · rw [if_pos (by rcases Classical.not_and_iff_not_or_not.1 hbare with h | h; exact .inl h; exact .inr (by omega))] at HNX
      rw [decide_eq_false hbare] at GB
      clear hbare hf5
      go_wp2_with fail
      refine GB.out.mono ?_
      rintro e w2 ⟨rfl, rfl⟩
      go_wp2_with fail
      refine GE.out.mono ?_
      rintro e w2 ⟨o2, rfl, hn2, ha2⟩
      have HB2 : Hid (Below w.heap.size w w2) := ha2.below HB.out (by have := HG.out; omega) (by have := HG.out; omega)
      have hr2 := HR.out.of_block (ha2.block (g + 1) (by omega) (by omega))
      obtain ⟨A3, c3, u0, u1, u2, v0, v1, v2, ht3, hr3⟩ := hn2.read
      simp only at u0
      have e1 := hr2.cell (i := 1) (by omega)
      replace e1 : World.cell? _ ⟨g + 1, 1, none⟩ = some (.int .i64 n) := e1
      have HN2 := Lib.hid hn2
      have HR2 := Lib.hid hr2
      clear hn2 ha2 hr2 ht3 hr3 u1 u2 v1 v2
      go_wp2_with fail
      refine (HK0.out _).mono ?_
      rintro e w3 ⟨rfl, rfl⟩
      go_wp2
      go_step3
      rw [then_goto, down_goto, Nμ1 (L := .slice A l.length c) (g := g) (k := k + 1) (o := o2) (NFr.mk ⟨rfl, rfl, rfl, rfl, rfl, rfl⟩)]
      exact ⟨⟨k + 1, o2, 1, n, t, HG.out ▸ NFr.mk ⟨rfl, rfl, rfl, rfl, rfl, rfl⟩, by omega, by rw [HNX.out, HG.out]; exact HN2.out.setKeep q0, by rw [HG.out]; exact HR2.out.setOther (a := ⟨g, 0, none⟩) (by show g + 1 ≠ g; omega) _, HB2.out.setCell (by have := HG.out; show _ ≤ g; omega) _⟩, by have := HM.out; omega⟩
  case p1 =>
    rintro a w1 ⟨k, o, kd0, n0, t0, hf, hk, hn, hr, hb⟩
    rw [Nμ1 hf]
    obtain ⟨m, HM⟩ : ∃ m, Hid (m = 2 * (l.length - k) + 1) := ⟨_, rfl⟩
    rw [← HM.out]
    have HB := Lib.hid hb; clear hb
    rw [HG.out] at hf hn hr
    obtain ⟨f, rfl⟩ := hf.out
    clear hf
    by_cases hlt : k < l.length
    · obtain ⟨b, off, rfl, _⟩ := HC.out.form (by omega)
      obtain ⟨x0, x1, x2⟩ := (HC.out.below HB.out).at_ hlt
      have HGET : Hid (l[k]? = some l[k]) := List.getElem?_eq_getElem hlt
      have HNX := Lib.hid (show nRun (l.take (k + 1)) = nStep (nRun (l.take k)) l[k] by rw [List.take_succ_eq_append_getElem hlt, nRun_snoc])
      have HTG := Lib.hid (tlen_get hlt)
      have HYG := Lib.hid (HGD.out l[k] (List.getElem_mem hlt))
      generalize l[k] = y at x0 x1 x2 HGET HNX HTG HYG
      obtain ⟨kd, n, t⟩ := y
      simp only at x0 x1 x2 HTG
      have hfit := HFIT.out k
      have HFT : Hid ((nRun (l.take k)).text.length + t.length ≤ 1099511627776) := by show _ ≤ _; have := HTG.out; have := HTL.out; omega
      obtain ⟨s, HS⟩ : ∃ x, Hid (nRun (l.take k) = x) := ⟨_, rfl⟩
      rw [HS.out] at hn hfit HNX HFT
      obtain ⟨_, _, hf3, hf4, hf5, hf6⟩ := hfit
      have HKG := Lib.hid (fun w => opSum_any s.gone n hf5 hf6 w)
      clear hf3 hf4 hf5 hf6
      have HRW := Lib.hid (cm_chain hr kd n t)
      have p0 := hr.cell (i := 0) (by omega)
      have q0 := hr.frozen 0
      have r1 := hr.set 0 (.int .i64 kd)
      have p1 := r1.cell (i := 1) (by omega)
      have q1 := r1.frozen 1
      have r2 := r1.set 1 (.int .i64 n)
      have p2 := r2.cell (i := 2) (by omega)
      have q2 := r2.frozen 2
      replace p0 : World.cell? _ ⟨g + 1, 0, none⟩ = some (.int .i64 kd0) := p0
      replace p1 : World.cell? _ ⟨g + 1, 1, none⟩ = some (.int .i64 n0) := p1
      replace p2 : World.cell? _ ⟨g + 1, 2, none⟩ = some (.string (bstr t0)) := p2
      have j0 := HRW.out.cell (i := 0) (by omega)
      have j1 := HRW.out.cell (i := 1) (by omega)
      have j2 := HRW.out.cell (i := 2) (by omega)
      replace j0 : World.cell? _ ⟨g + 1, 0, none⟩ = some (.int .i64 kd) := j0
      replace j1 : World.cell? _ ⟨g + 1, 1, none⟩ = some (.int .i64 n) := j1
      replace j2 : World.cell? _ ⟨g + 1, 2, none⟩ = some (.string (bstr t)) := j2
      have hne : g ≠ g + 1 := by omega
      have HN := Lib.hid (((hn.other hne (by omega) 0 (.int .i64 kd)).other hne (by omega) 1 (.int .i64 n)).other hne (by omega) 2 (.string (bstr t)))
      have HBW := Lib.hid (((HB.out.setCell (p := ⟨g + 1, 0, none⟩) (by have := HG.out; show _ ≤ g + 1; omega) (.int .i64 kd)).setCell (p := ⟨g + 1, 1, none⟩) (by have := HG.out; show _ ≤ g + 1; omega) (.int .i64 n)).setCell (p := ⟨g + 1, 2, none⟩) (by have := HG.out; show _ ≤ g + 1; omega) (.string (bstr t)))
      clear hr hn r1 r2 hne
      obtain ⟨A1, c1, z0, z1, z2, y0, y1, y2, ht1, hr1⟩ := HN.out.read
      have HT1 := Lib.hid ht1; have HR1 := Lib.hid hr1
      clear ht1 hr1 z0 y0
      have e1 : ((k : Int) == (l.length : Int)) = false := beq_eq_false_iff_ne.2 (by omega)
      have hkl : k < 1073741824 := by omega
      by_cases h2 : kd = 2
      · subst h2
        rw [nStep, if_pos rfl] at HNX
        have hsz := bstr_size t
        have HSC := Lib.hid (bytes_str t HYG.out.2.2.1)
        obtain ⟨i0, hi0, hz0, hz1, hz2⟩ := info_parts u8_info
        have HI0 := Lib.hid hi0; clear hi0
        have HZ0 := Lib.hid hz0; clear hz0
        have HZ1 := Lib.hid hz1; clear hz1
        have HZ2 := Lib.hid hz2; clear hz2
        go_wp2_with (at_builtin
                     refine wpList_append_own_string _ rfl (.tmp 22) (.tmp 24) 46 9 rfl (g + 2) 5 i0 Try.underlying46 Try.underlying9 HI0.out HZ0.out HZ1.out HZ2.out (.slice A1 s.text.length c1) s.text.length (u8s s.text) rfl HT1.out (bstr t) rfl (by have := HFT.out; rw [hsz]; simp only [maxLen]; omega) (by have := HFT.out; rw [hsz]; omega) HN.out.up ?_
                     intro v3 w3 hown3 hgr3 _
                     rw [hsz, HSC.out, ← u8s_append, ← List.length_append] at hown3
                     obtain ⟨A3, k3, rfl⟩ := own_slice hown3
                     have hp3 := HN.out.setText HT1.out hgr3 hown3
                     rw [List.length_append] at hp3
                     have HN3 := Lib.hid hp3.1
                     have HA3 := Lib.hid hp3.2
                     have hrr := HR1.out.of_block (hgr3.block g HR1.out.lt (fun e => by have := (HT1.out.lt g e.symm).1; omega))
                     have w31 := hrr.cell (i := 1) (by omega)
                     replace w31 : World.cell? _ ⟨g, 1, none⟩ = some (.slice A1 s.text.length c1) := w31
                     have w3f := hrr.frozen 1
                     clear hown3 hgr3 hp3 hrr)
        go_step3
        rw [then_goto, down_goto, Nμ1 (L := .slice (some ⟨b, off, none⟩) l.length c) (g := g) (k := k + 1) (o := o) (NFr.mk ⟨rfl, rfl, rfl, rfl, rfl, rfl⟩)]
        exact ⟨⟨k + 1, o, 2, n, t, HG.out ▸ NFr.mk ⟨rfl, rfl, rfl, rfl, rfl, rfl⟩, by omega, by rw [HNX.out, HG.out]; exact HN3.out, by rw [HG.out]; exact HRW.out.of_block (HA3.out.block (g + 1) (by omega) (by omega)), HA3.out.below HBW.out (by have := HG.out; omega) (by have := HG.out; omega)⟩, by have := HM.out; omega⟩
      by_cases h3 : kd = 3
      · subst h3
        rw [nStep, if_neg h2, if_pos rfl] at HNX
        obtain ⟨q, HQ⟩ : ∃ q, Hid (hld s.gone n = q) := ⟨_, Lib.hid rfl⟩
        simp only [HQ.out] at HNX
        rw [HQ.out] at HKG
        clear h2
        go_wp2_with fail
        refine (HKG.out _).mono ?_
        rintro e w2 ⟨rfl, rfl⟩
        go_wp2
        go_step3
        rw [then_goto, down_goto, Nμ1 (L := .slice (some ⟨b, off, none⟩) l.length c) (g := g) (k := k + 1) (o := o) (NFr.mk ⟨rfl, rfl, rfl, rfl, rfl, rfl⟩)]
        exact ⟨⟨k + 1, o, 3, n, t, HG.out ▸ NFr.mk ⟨rfl, rfl, rfl, rfl, rfl, rfl⟩, by omega, by rw [HNX.out, HG.out]; exact HN.out.setGone q, by rw [HG.out]; exact HRW.out.setOther (a := ⟨g, 2, none⟩) (by show g + 1 ≠ g; omega) _, HBW.out.setCell (by have := HG.out; show _ ≤ g; omega) _⟩, by have := HM.out; omega⟩
      have g2 : (kd == 2) = false := beq_eq_false_iff_ne.2 h2
      have g3 : (kd == 3) = false := beq_eq_false_iff_ne.2 h3
      by_cases h1 : kd = 1
      · subst h1
        by_cases hn1 : 0 < n
        · have hnn := Lib.hid hn1
          go_wp2
          go_step3
          rw [block_goto, then_goto, down_goto, Nμ2 (L := .slice (some ⟨b, off, none⟩) l.length c) (g := g) (k := k + 1) (o := o) (NFr.mk ⟨rfl, rfl, rfl, rfl, rfl, rfl⟩)]
          exact ⟨⟨k, o, n, t, HG.out ▸ NFr.mk ⟨rfl, rfl, rfl, rfl, rfl, rfl⟩, hlt, HGET.out, hnn.out, by rw [HS.out, HG.out]; exact HN.out, by rw [HG.out]; exact HRW.out, HBW.out⟩, by have := HM.out; omega⟩
        · rw [nStep, if_neg h2, if_neg h3, if_pos (.inr (by simp only; omega))] at HNX
          clear h2 h3
          go_wp2
          go_step3
          rw [then_goto, down_goto, Nμ1 (L := .slice (some ⟨b, off, none⟩) l.length c) (g := g) (k := k + 1) (o := o) (NFr.mk ⟨rfl, rfl, rfl, rfl, rfl, rfl⟩)]
          exact ⟨⟨k + 1, o, 1, n, t, HG.out ▸ NFr.mk ⟨rfl, rfl, rfl, rfl, rfl, rfl⟩, by omega, by rw [HNX.out, HG.out]; exact HN.out, by rw [HG.out]; exact HRW.out, HBW.out⟩, by have := HM.out; omega⟩
      · rw [nStep, if_neg h2, if_neg h3, if_pos (.inl h1)] at HNX
        have g1 : (kd == 1) = false := beq_eq_false_iff_ne.2 h1
        clear h1 h2 h3
        go_wp2
        go_step3
        rw [then_goto, down_goto, Nμ1 (L := .slice (some ⟨b, off, none⟩) l.length c) (g := g) (k := k + 1) (o := o) (NFr.mk ⟨rfl, rfl, rfl, rfl, rfl, rfl⟩)]
        exact ⟨⟨k + 1, o, kd, n, t, HG.out ▸ NFr.mk ⟨rfl, rfl, rfl, rfl, rfl, rfl⟩, by omega, by rw [HNX.out, HG.out]; exact HN.out, by rw [HG.out]; exact HRW.out, HBW.out⟩, by have := HM.out; omega⟩
    · have hkl : k = l.length := by omega
      subst hkl
      rw [List.take_length] at hn
      have HN := Lib.hid hn
      clear hn hr
      have e1 : ((l.length : Int) == (l.length : Int)) = true := beq_self_eq_true _
      go_wp2
      go_step3
      rw [then_goto, down_goto, Nμ0]
      exact ⟨⟨o, HG.out ▸ NFr.mk ⟨rfl, rfl, rfl, rfl, rfl, rfl⟩, by rw [HG.out]; exact HN.out, HB.out⟩, by have := HM.out; omega⟩
  case first =>
    intro P0
    have P0' := Lib.hid P0; clear P0
    refine ⟨2 * l.length + 2, ?_⟩
    go_wp2
    go_step3
    rename_i K hK
    refine hK _ _ (down_mono ?_ (P0'.out _ _ ⟨0, .slice none 0 0, 0, 0, [], NFr.mk ⟨rfl, rfl, rfl, rfl, rfl, rfl⟩, Nat.zero_le _, NowAt.start w, cm_start w, ((Below.refl _ _).alloc (Nat.le_refl _) _).alloc (by simp) _⟩))
    rw [Nμ1 (L := .slice A l.length c) (g := w.heap.size) (k := 0) (o := .slice none 0 0) (NFr.mk ⟨rfl, rfl, rfl, rfl, rfl, rfl⟩)]
    omega
end Go.Proofs.Ytgdojhccdicapaa
