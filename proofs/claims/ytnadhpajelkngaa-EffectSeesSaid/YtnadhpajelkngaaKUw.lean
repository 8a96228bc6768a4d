/- The contract of utf.Offset, over any bytes, texts or not, and any place. Condition: no more than 2^40 bytes. (Merged of 8 texts.) -/
import Derived.Test.YtnadhpajelkngaaKUm
import Derived.Scope
import Derived.Tactics
import Derived.Tactics2
import Derived.WalkMore
import Derived.Test.YtnadhpajelkngaaKBase
import Derived.Shelf.Abstract
import Derived.Deep.OwnRows
/- The contract of utf.may: of any int it tells whether a text may have it. No condition. -/
namespace Go.Proofs.Ytnadhpajelkngaa
open Go.RowKit

set_option maxRecDepth 100000 in
theorem utfMay_yes (n : Int) (h : 0 < n ∧ n ≤ 1114111 ∧ (n < 55296 ∨ 57343 < n)) (w : World) :
    Calls Try.prog 80 #[.int .i64 n] w fun e w' => e = .returned (.bool true) ∧ w = w' := by
  obtain ⟨h1, h2, h3⟩ := h
  have H3 := Lib.hid h3; clear h3
  by_cases hs : (55296 ≤ n)
  · have hs2 : ¬ n ≤ 57343 := by have := H3.out; omega
    go_enter Try.func80, Try.ntmps80
    go_wp2
    go_ret
    exact ⟨rfl, rfl⟩
  · go_enter Try.func80, Try.ntmps80
    go_wp2
    go_ret
    exact ⟨rfl, rfl⟩
set_option maxRecDepth 100000 in
theorem utfMay_no (n : Int) (h : n ≤ 0 ∨ 1114111 < n ∨ (55296 ≤ n ∧ n ≤ 57343)) (w : World) :
    Calls Try.prog 80 #[.int .i64 n] w fun e w' => e = .returned (.bool false) ∧ w = w' := by
  have H3 := Lib.hid h; clear h
  by_cases h1 : 0 < n
  · by_cases h2 : n ≤ 1114111
    · have hs : 55296 ≤ n := by have := H3.out; omega
      have hs2 : n ≤ 57343 := by have := H3.out; omega
      go_enter Try.func80, Try.ntmps80
      go_wp2
      go_ret
      exact ⟨rfl, rfl⟩
    · have hs : 55296 ≤ n := by omega
      have hs2 : ¬ n ≤ 57343 := by omega
      go_enter Try.func80, Try.ntmps80
      go_wp2
      go_ret
      exact ⟨rfl, rfl⟩
  · have hs : ¬ 55296 ≤ n := by omega
    go_enter Try.func80, Try.ntmps80
    go_wp2
    go_ret
    exact ⟨rfl, rfl⟩
theorem utfMay_may {v : Nat} (h : May v) (w : World) : Calls Try.prog 80 #[.int .i64 (v : Int)] w fun e w' => e = .returned (.bool true) ∧ w = w' :=
  utfMay_yes v (by obtain ⟨h1, h2, h3⟩ := h; omega) w
theorem utfMay_not {v : Nat} (h : ¬ May v) (w : World) : Calls Try.prog 80 #[.int .i64 (v : Int)] w fun e w' => e = .returned (.bool false) ∧ w = w' :=
  utfMay_no v (by unfold May at h; omega) w
end Go.Proofs.Ytnadhpajelkngaa

/- A scope of four labels among which the run jumps back and ahead: what holds at each label, and a measure that each pass from a label to the next lowers. No condition. -/
namespace Go.Proofs.Ytnadhpajelkngaa

/-- As Q; by a goto to a label: what holds at that label, at a measure below n. -/
def down (J : Nat → Act → World → Prop) (μ : Nat → Act → Nat) (n : Nat) (Q : Exit → Act → World → Prop) : Exit → Act → World → Prop
  | .goto l, a, w => J l a w ∧ μ l a < n
  | e, a, w => Q e a w
theorem down_ret {J : Nat → Act → World → Prop} {μ : Nat → Act → Nat} {n : Nat} {Q : Exit → Act → World → Prop} {a : Act} {w : World} : down J μ n Q .ret a w = Q .ret a w := rfl
theorem down_goto {J : Nat → Act → World → Prop} {μ : Nat → Act → Nat} {n : Nat} {Q : Exit → Act → World → Prop} {l : Nat} {a : Act} {w : World} : down J μ n Q (.goto l) a w = (J l a w ∧ μ l a < n) := rfl
theorem down_mono {P : Program} {c : Code} {J : Nat → Act → World → Prop} {μ : Nat → Act → Nat} {m n : Nat} {Q : Exit → Act → World → Prop} {a : Act} {w : World} (h : m ≤ n) (hc : c.wp P (down J μ m Q) a w) : c.wp P (down J μ n Q) a w :=
  Code.wp_mono (fun e a w q => by cases e <;> first | exact q | exact ⟨q.1, Nat.lt_of_lt_of_le q.2 h⟩) hc

theorem skip_seq {P : Program} {c : Code} {Q : Exit → Act → World → Prop} {a : Act} {w : World} (h : c.wp P Q a w) : (Code.skip.seq c).wp P Q a w := by
  go_wp2
  exact h

/-- The pass from a label on: whatever is at hand there. -/
def Pass (P : Program) (c : Code) (J : Nat → Act → World → Prop) (μ : Nat → Act → Nat) (Q : Exit → Act → World → Prop) (l : Nat) : Prop := ∀ a w, J l a w → c.wp P (down J μ (μ l a) Q) a w

theorem wp_scope_four {P : Program} {c r0 r1 r2 r3 : Code} {a : Act} {w : World} {Q : Exit → Act → World → Prop} (J : Nat → Act → World → Prop) (μ : Nat → Act → Nat)
    (hJ : ∀ l a w, J l a w → l < 4) (h0 : findLabel c 0 = some (Code.skip.seq r0)) (h1 : findLabel c 1 = some (Code.skip.seq r1)) (h2 : findLabel c 2 = some (Code.skip.seq r2)) (h3 : findLabel c 3 = some (Code.skip.seq r3))
    (p2 : Pass P r2 J μ Q 2) (p1 : Pass P r1 J μ Q 1) (p3 : Pass P r1 J μ Q 1 → Pass P r3 J μ Q 3) (p0 : Pass P r3 J μ Q 3 → Pass P r0 J μ Q 0)
    (first : Pass P r0 J μ Q 0 → ∃ n, c.wp P (down J μ n Q) a w) : (Code.scope c).wp P Q a w := by
  have q3 := p3 p1
  have q0 := p0 q3
  have pass : ∀ l a w, J l a w → ∃ r, findLabel c l = some r ∧ r.wp P (down J μ (μ l a) Q) a w := by
    intro l a w hl
    have := hJ l a w hl
    match l, this with
    | 0, _ => exact ⟨_, h0, skip_seq (q0 a w hl)⟩
    | 1, _ => exact ⟨_, h1, skip_seq (p1 a w hl)⟩
    | 2, _ => exact ⟨_, h2, skip_seq (p2 a w hl)⟩
    | 3, _ => exact ⟨_, h3, skip_seq (q3 a w hl)⟩
  obtain ⟨n, hn⟩ := first q0
  intro b k cs
  have key : ∀ n l a w, μ l a = n → J l a w → ∃ rest, findLabel c l = some rest ∧ ∃ e a' w', Q e a' w' ∧ Arrives P (lone (b.at a (.code rest :: .inScope c :: k)) cs w) b k cs e a' w' := by
    intro n
    induction n using Nat.strongRecOn with
    | _ n ih =>
      intro l a w hn hl
      obtain ⟨rest, hf, hp⟩ := pass l a w hl
      refine ⟨rest, hf, ?_⟩
      obtain ⟨e, a₁, w₁, hq, harr⟩ := hp b (.inScope c :: k) cs
      cases e with
      | normal => exact ⟨.normal, a₁, w₁, hq, Steps.trans harr (.one step_inScope)⟩
      | exit id => exact ⟨.exit id, a₁, w₁, hq, fun k' hk => harr k' (by simp [exitTo, hk])⟩
      | goto l' =>
        obtain ⟨hJ', hlt⟩ := hq
        obtain ⟨rest', hf', e₂, a₂, w₂, hq₂, harr₂⟩ := ih _ (by omega) l' a₁ w₁ rfl hJ'
        have hg : gotoIn l' (.inScope c :: k) = some (.code rest' :: .inScope c :: k) := by simp [gotoIn, hf']
        exact ⟨e₂, a₂, w₂, hq₂, .of_steps (harr _ hg) harr₂⟩
      | ret => exact ⟨_, a₁, w₁, hq, harr⟩
      | panic ch => exact ⟨_, a₁, w₁, hq, harr⟩
      | outgrown => exact ⟨_, a₁, w₁, hq, harr⟩
  obtain ⟨e, a₁, w₁, hq, harr⟩ := hn b (.inScope c :: k) cs
  cases e with
  | normal => exact ⟨.normal, a₁, w₁, hq, .head step_scope (Steps.trans harr (.one step_inScope))⟩
  | exit id => exact ⟨.exit id, a₁, w₁, hq, fun k' hk => .head step_scope (harr k' (by simp [exitTo, hk]))⟩
  | goto l' =>
    obtain ⟨hJ', _⟩ := hq
    obtain ⟨rest', hf', e₂, a₂, w₂, hq₂, harr₂⟩ := key _ l' a₁ w₁ rfl hJ'
    have hg : gotoIn l' (.inScope c :: k) = some (.code rest' :: .inScope c :: k) := by simp [gotoIn, hf']
    exact ⟨e₂, a₂, w₂, hq₂, .of_steps (.head step_scope (harr _ hg)) harr₂⟩
  | ret => exact ⟨_, a₁, w₁, hq, .of_steps (.one step_scope) harr⟩
  | panic ch => exact ⟨_, a₁, w₁, hq, .of_steps (.one step_scope) harr⟩
  | outgrown => exact ⟨_, a₁, w₁, hq, .of_steps (.one step_scope) harr⟩

attribute [irreducible] down
end Go.Proofs.Ytnadhpajelkngaa

/- The frame of utf.walk, what holds at each of its labels, and the measure. No condition. -/
namespace Go.Proofs.Ytnadhpajelkngaa
open Go.RowKit

/-- A frame of utf.walk. -/
def Fr (a : Act) (s sh : Value) (at_ : Nat) (p le lf : Value) : Prop :=
  a.defers = [] ∧ a.tmps.size = 82 ∧ a.tmps[0]? = some s ∧ a.tmps[1]? = some sh ∧ a.tmps[5]? = some (.int .i64 (at_ : Int)) ∧ a.tmps[6]? = some p ∧ a.tmps[7]? = some le ∧ a.tmps[8]? = some lf
theorem Fr.out {a : Act} {s sh : Value} {at_ : Nat} {p le lf : Value} (h : Fr a s sh at_ p le lf) : ∃ f : Nat → Value, a = { tmps := #[s, sh, f 2, f 3, f 4, .int .i64 (at_ : Int), p, le, lf, f 9, f 10, f 11, f 12, f 13, f 14, f 15, f 16, f 17, f 18, f 19, f 20, f 21, f 22, f 23, f 24, f 25, f 26, f 27, f 28, f 29, f 30, f 31, f 32, f 33, f 34, f 35, f 36, f 37, f 38, f 39, f 40, f 41, f 42, f 43, f 44, f 45, f 46, f 47, f 48, f 49, f 50, f 51, f 52, f 53, f 54, f 55, f 56, f 57, f 58, f 59, f 60, f 61, f 62, f 63, f 64, f 65, f 66, f 67, f 68, f 69, f 70, f 71, f 72, f 73, f 74, f 75, f 76, f 77, f 78, f 79, f 80, f 81], defers := [] } := by
  obtain ⟨t, d⟩ := a
  obtain ⟨rfl, hs, h0, h1, h5, h6, h7, h8⟩ := h
  simp only at hs h0 h1 h5 h6 h7 h8
  refine ⟨fun n => (t[n]?).getD undef, ?_⟩
  have e : t = ((List.range 82).map fun i => (t[i]?).getD undef).toArray := by
    apply Array.ext
    · simp [hs]
    · intro i h1 h2
      simp [h1]
  have e2 : ((List.range 82).map fun i => (t[i]?).getD undef).toArray = #[(t[0]?).getD undef, (t[1]?).getD undef, (t[2]?).getD undef, (t[3]?).getD undef, (t[4]?).getD undef, (t[5]?).getD undef, (t[6]?).getD undef, (t[7]?).getD undef, (t[8]?).getD undef, (t[9]?).getD undef, (t[10]?).getD undef, (t[11]?).getD undef, (t[12]?).getD undef, (t[13]?).getD undef, (t[14]?).getD undef, (t[15]?).getD undef, (t[16]?).getD undef, (t[17]?).getD undef, (t[18]?).getD undef, (t[19]?).getD undef, (t[20]?).getD undef, (t[21]?).getD undef, (t[22]?).getD undef, (t[23]?).getD undef, (t[24]?).getD undef, (t[25]?).getD undef, (t[26]?).getD undef, (t[27]?).getD undef, (t[28]?).getD undef, (t[29]?).getD undef, (t[30]?).getD undef, (t[31]?).getD undef, (t[32]?).getD undef, (t[33]?).getD undef, (t[34]?).getD undef, (t[35]?).getD undef, (t[36]?).getD undef, (t[37]?).getD undef, (t[38]?).getD undef, (t[39]?).getD undef, (t[40]?).getD undef, (t[41]?).getD undef, (t[42]?).getD undef, (t[43]?).getD undef, (t[44]?).getD undef, (t[45]?).getD undef, (t[46]?).getD undef, (t[47]?).getD undef, (t[48]?).getD undef, (t[49]?).getD undef, (t[50]?).getD undef, (t[51]?).getD undef, (t[52]?).getD undef, (t[53]?).getD undef, (t[54]?).getD undef, (t[55]?).getD undef, (t[56]?).getD undef, (t[57]?).getD undef, (t[58]?).getD undef, (t[59]?).getD undef, (t[60]?).getD undef, (t[61]?).getD undef, (t[62]?).getD undef, (t[63]?).getD undef, (t[64]?).getD undef, (t[65]?).getD undef, (t[66]?).getD undef, (t[67]?).getD undef, (t[68]?).getD undef, (t[69]?).getD undef, (t[70]?).getD undef, (t[71]?).getD undef, (t[72]?).getD undef, (t[73]?).getD undef, (t[74]?).getD undef, (t[75]?).getD undef, (t[76]?).getD undef, (t[77]?).getD undef, (t[78]?).getD undef, (t[79]?).getD undef, (t[80]?).getD undef, (t[81]?).getD undef] := rfl
  simp only [h0, h1, h5, h6, h7, h8, Option.getD_some] at e2
  rw [← e2, ← e]
attribute [irreducible] Fr
theorem Fr.mk {t : Array Value} {s sh : Value} {at_ : Nat} {p le lf : Value} (h : t.size = 82 ∧ t[0]? = some s ∧ t[1]? = some sh ∧ t[5]? = some (.int .i64 (at_ : Int)) ∧ t[6]? = some p ∧ t[7]? = some le ∧ t[8]? = some lf) : Fr { tmps := t, defers := [] } s sh at_ p le lf := by
  unfold Fr
  exact ⟨rfl, h⟩
theorem Fr.at5 {a : Act} {s sh : Value} {at_ : Nat} {p le lf : Value} (h : Fr a s sh at_ p le lf) : a.tmps.getD 5 undef = .int .i64 (at_ : Int) := by
  obtain ⟨f, rfl⟩ := h.out
  rfl

/-- What holds at each label: 0: first, 1: whole, 2: bad, 3: further. -/
def WJ (l : List Nat) (sh : Value) (Inv : List Nat → World → Prop) : Nat → Act → World → Prop
  | 0, a, w => ∃ vs r p le lf, Fr a (.string (bstr l)) sh (E vs).length p le lf ∧ (∀ v ∈ vs, May v) ∧ l = E vs ++ r ∧ Inv vs w
  | 1, a, w => ∃ vs r t at_ p le lf, Fr a (.string (bstr l)) sh at_ (.int .i64 ((p : Nat) : Int)) (.int .i64 ((le : Nat) : Int)) lf ∧ (∀ v ∈ vs, May v) ∧ l = E vs ++ r ∧ r ≠ [] ∧ at_ + t.length = l.length ∧ l.drop at_ = t ∧ st r = fur 0 p le t ∧ p ≤ 2097152 ∧ le ≤ 65536 ∧ Inv vs w
  | 2, a, w => ∃ at_ p le lf, Fr a (.string (bstr l)) sh at_ p le lf ∧ (¬ ∃ ws, V l ws) ∧ ∃ vs, Inv vs w
  | 3, a, w => ∃ vs r t at_ p le n, Fr a (.string (bstr l)) sh at_ (.int .i64 ((p : Nat) : Int)) (.int .i64 ((le : Nat) : Int)) (.int .i64 ((n : Nat) : Int)) ∧ (∀ v ∈ vs, May v) ∧ l = E vs ++ r ∧ r ≠ [] ∧ at_ + t.length = l.length ∧ l.drop at_ = t ∧ st r = fur n p le t ∧ (n = 1 ∧ p < 32768 ∨ n = 2 ∧ p < 512 ∨ n = 3 ∧ p < 8) ∧ le ≤ 65536 ∧ Inv vs w
  | _, _, _ => False
def Wμ (len : Nat) : Nat → Act → Nat
  | 0, a => 4 * (len - (RowKit.intOf (a.tmps.getD 5 undef)).toNat) + 1
  | 1, a => 4 * (len - (RowKit.intOf (a.tmps.getD 5 undef)).toNat) + 2
  | 3, a => 4 * (len - (RowKit.intOf (a.tmps.getD 5 undef)).toNat) + 3
  | _, _ => 0
theorem Wμ0 {len : Nat} {a : Act} {s sh : Value} {at_ : Nat} {p le lf : Value} (h : Fr a s sh at_ p le lf) : Wμ len 0 a = 4 * (len - at_) + 1 := by
  show 4 * (len - (RowKit.intOf (a.tmps.getD 5 undef)).toNat) + 1 = _
  rw [h.at5]; simp [RowKit.intOf]
theorem Wμ1 {len : Nat} {a : Act} {s sh : Value} {at_ : Nat} {p le lf : Value} (h : Fr a s sh at_ p le lf) : Wμ len 1 a = 4 * (len - at_) + 2 := by
  show 4 * (len - (RowKit.intOf (a.tmps.getD 5 undef)).toNat) + 2 = _
  rw [h.at5]; simp [RowKit.intOf]
theorem Wμ3 {len : Nat} {a : Act} {s sh : Value} {at_ : Nat} {p le lf : Value} (h : Fr a s sh at_ p le lf) : Wμ len 3 a = 4 * (len - at_) + 3 := by
  show 4 * (len - (RowKit.intOf (a.tmps.getD 5 undef)).toNat) + 3 = _
  rw [h.at5]; simp [RowKit.intOf]
theorem Wμ2 {len : Nat} {a : Act} : Wμ len 2 a = 0 := rfl

end Go.Proofs.Ytnadhpajelkngaa

/- The contract of utf.walk: through any text, whatever is called at each code point: it tells whether the bytes are a text, and has shown, in order, the code points that were read, each with the place behind it. Conditions: no more than 2^40 bytes; the function that is called keeps what the caller holds. -/
namespace Go.Proofs.Ytnadhpajelkngaa
open Go.RowKit

theorem then_goto {K : Act → World → Prop} {Q : Exit → Act → World → Prop} {l : Nat} {a : Act} {w : World} : Exit.then K Q (.goto l) a w = Q (.goto l) a w := rfl

theorem block_goto {id : Nat} {Q : Exit → Act → World → Prop} {l : Nat} {a : Act} {w : World} : Exit.inBlock id Q (.goto l) a w = Q (.goto l) a w := rfl

set_option maxHeartbeats 4000000 in
set_option maxRecDepth 100000 in
theorem utfWalk_any (k : Nat) (hk : ∀ (args : Array Value) (w : World), (callFunc k args).run Try.prog w = .ok (.enter k args) w) (cap : Array Value) (l : List Nat) (hl : l.length ≤ 1099511627776) (hb : ∀ x ∈ l, x < 256) (Inv : List Nat → World → Prop)
    (hshow : ∀ vs v w, Inv vs w → May v → (E (vs ++ [v])).length ≤ l.length → Calls Try.prog k (#[.int .i64 ((v : Nat) : Int), .int .i64 (((E (vs ++ [v])).length : Nat) : Int)] ++ cap) w fun e w' => e = .returned (.tuple #[]) ∧ Inv (vs ++ [v]) w')
    (w : World) (h0 : Inv [] w) :
    Calls Try.prog 78 #[.string (bstr l), .func (.func k) #[] cap] w fun e w' =>
      (∃ vs, V l vs ∧ e = .returned (.bool true) ∧ Inv vs w') ∨ ((¬ ∃ vs, V l vs) ∧ e = .returned (.bool false) ∧ ∃ vs, Inv vs w') := by
  have HS := Lib.hid hshow; clear hshow
  have HB := Lib.hid hb; clear hb
  have HL := Lib.hid hl; clear hl
  have H0 := Lib.hid h0; clear h0
  have HD := Lib.hid (bstr_size l)
  go_enter Try.func78, Try.ntmps78
  go_wp2
  refine wp_scope_four (WJ l (.func (.func k) #[] cap) Inv) (Wμ l.length) ?hJ rfl rfl rfl rfl ?p2 ?p1 ?p3 ?p0 ?first
  case hJ =>
    intro j a w h
    match j, h with
    | 0, _ => omega
    | 1, _ => omega
    | 2, _ => omega
    | 3, _ => omega
    | (n + 4), h => exact h.elim
  case p2 =>
    rintro a w ⟨at_, p, le, lf, hf, hn, vs, hv⟩
    rw [Wμ2]
    have HN := Lib.hid hn; clear hn
    obtain ⟨f, rfl⟩ := hf.out
    clear hf
    go_wp2
    rw [down_ret]
    go_ret
    exact .inr ⟨HN.out, rfl, vs, hv⟩
  case p1 =>
    rintro a w ⟨vs, r, t, at_, p, le, lf, hf, hm, hlr, hr, hat, hd, hst, hp, hle, hv⟩
    rw [Wμ1 hf]
    obtain ⟨m, HM⟩ : ∃ m, Hid (m = 4 * (l.length - at_) + 2) := ⟨_, rfl⟩
    rw [← HM.out]
    obtain ⟨f, rfl⟩ := hf.out
    clear hf
    have HV := Lib.hid hv; clear hv
    have HMM := Lib.hid hm; clear hm
    have HLR := Lib.hid hlr; clear hlr
    have HR := Lib.hid hr; clear hr
    have HT := Lib.hid hd; clear hd
    have HST := Lib.hid hst; clear hst
    rw [fur_zero] at HST
    by_cases h1 : p < le
    · have HN : Hid (¬ ∃ ws, V l ws) := by
        show ¬ ∃ ws, V l ws
        rw [HLR.out]
        exact none_behind HMM.out HR.out (by rw [HST.out, if_pos (.inl h1)])
      go_wp2
      go_step3
      rw [then_goto, down_goto, Wμ2]
      exact ⟨⟨at_, _, _, lf, Fr.mk ⟨rfl, rfl, rfl, rfl, rfl, rfl, rfl⟩, HN.out, vs, HV.out⟩, by have := HM.out; omega⟩
    · by_cases h2 : May p
      · have HS2 : Hid (st r = some (p, t)) := by show st r = some (p, t); rw [HST.out, if_neg (fun hh => hh.elim h1 (fun h => h h2))]
        have HAT : Hid (at_ = (E (vs ++ [p])).length) := by
          show at_ = (E (vs ++ [p])).length
          have h3 := congrArg List.length HLR.out
          rw [(st_some HS2.out).2, ← List.append_assoc, ← E_snoc, List.length_append] at h3
          omega
        go_wp2_with (go_at_call 80; refine (utfMay_may h2 _).mono ?_; rintro e w' ⟨rfl, rfl⟩)
        rw [HAT.out]
        refine (HS.out vs p _ HV.out h2 (by rw [← HAT.out]; omega)).mono ?_
        rintro e w' ⟨rfl, hv'⟩
        have HV' := Lib.hid hv'; clear hv'
        go_wp2
        go_step3
        rw [then_goto, down_goto, Wμ0 (s := .string (bstr l)) (sh := .func (.func k) #[] cap) (at_ := (E (vs ++ [p])).length) (Fr.mk ⟨rfl, rfl, rfl, rfl, rfl, rfl, rfl⟩)]
        refine ⟨⟨vs ++ [p], t, _, _, lf, Fr.mk ⟨rfl, rfl, rfl, rfl, rfl, rfl, rfl⟩, ?_, ?_, HV'.out⟩, ?_⟩
        · intro v hv
          rcases List.mem_append.1 hv with hv | hv
          · exact HMM.out v hv
          · rw [List.mem_singleton.1 hv]; exact h2
        · rw [E_snoc, List.append_assoc, ← (st_some HS2.out).2, ← HLR.out]
        · rw [← HAT.out, HM.out]; omega
      · have HN : Hid (¬ ∃ ws, V l ws) := by
          show ¬ ∃ ws, V l ws
          rw [HLR.out]
          exact none_behind HMM.out HR.out (by rw [HST.out, if_pos (.inr h2)])
        go_wp2_with (go_at_call 80; refine (utfMay_not h2 _).mono ?_; rintro e w' ⟨rfl, rfl⟩)
        go_step3
        rw [then_goto, down_goto, Wμ2]
        exact ⟨⟨at_, _, _, lf, Fr.mk ⟨rfl, rfl, rfl, rfl, rfl, rfl, rfl⟩, HN.out, vs, HV.out⟩, by have := HM.out; omega⟩
  case p3 =>
    rintro P1 a w ⟨vs, r, t, at_, p, le, n, hf, hm, hlr, hr, hat, hd, hst, hp, hle, hv⟩
    have P1' := Lib.hid P1; clear P1
    rw [Wμ3 hf]
    obtain ⟨m, HM⟩ : ∃ m, Hid (m = 4 * (l.length - at_) + 3) := ⟨_, rfl⟩
    rw [← HM.out]
    obtain ⟨f, rfl⟩ := hf.out
    clear hf
    have HV := Lib.hid hv; clear hv
    have HMM := Lib.hid hm; clear hm
    have HLR := Lib.hid hlr; clear hlr
    have HR := Lib.hid hr; clear hr
    have HST := Lib.hid hst; clear hst
    have HP := Lib.hid hp; clear hp
    have hsz := HD.out
    have hl := HL.out
    obtain ⟨n, rfl⟩ : ∃ k, n = k + 1 := ⟨n - 1, by have := HP.out; omega⟩
    cases t with
    | nil =>
      have hat' : at_ = l.length := by simpa using hat
      have HN : Hid (¬ ∃ ws, V l ws) := by
        show ¬ ∃ ws, V l ws
        rw [HLR.out]
        exact none_behind HMM.out HR.out (by rw [HST.out, fur_nil])
      clear hd hat
      subst hat'
      go_wp2
      go_step3
      rw [then_goto, down_goto, Wμ2]
      exact ⟨⟨l.length, _, _, _, Fr.mk ⟨rfl, rfl, rfl, rfl, rfl, rfl, rfl⟩, HN.out, vs, HV.out⟩, by have := HM.out; omega⟩
    | cons d t =>
      have HT := Lib.hid hd
      have hix := fun w => byte_at HB.out hd w
      have hd256 : d < 256 := HB.out d (List.mem_of_mem_drop (by rw [hd]; exact List.mem_cons_self ..))
      clear hd
      have hat' : at_ + t.length + 1 = l.length := by simpa [Nat.add_assoc] using hat
      clear hat
      rw [fur_cons] at HST
      by_cases h2 : d / 64 = 2
      · have HST2 : Hid (st r = fur n (p * 64 + d % 64) le t) := by show st r = _; rw [HST.out, if_pos h2]
        have hne : at_ < l.length := by omega
        have e1 : ((at_ : Int) == (l.length : Int)) = false := beq_eq_false_iff_ne.2 (by omega)
        have e2 : (((d : Int) / 64) != 2) = false := by simp; omega
        obtain ⟨q, HQ⟩ : ∃ q, Hid (q = p * 64 + d % 64) := ⟨_, rfl⟩
        have hp2 : p < 32768 := by have := HP.out; omega
        have eor := bor6 p d hp2
        rw [← HQ.out] at eor
        have hdr : Hid (l.drop (at_ + 1) = t) := by show l.drop (at_ + 1) = t; rw [← List.drop_drop, HT.out]; rfl
        have HST3 : Hid (st r = fur n q le t) := by show _ = _; rw [HST2.out, HQ.out]
        cases n with
        | zero =>
          have hq : Hid (q ≤ 2097152) := by show q ≤ 2097152; rw [HQ.out]; omega
          go_wp2
          go_step3
          rename_i K hK
          refine hK _ _ (down_mono ?_ (P1'.out _ _ ⟨vs, r, t, at_ + 1, q, le, _, Fr.mk ⟨rfl, rfl, rfl, rfl, rfl, rfl, rfl⟩, HMM.out, HLR.out, HR.out, by omega, hdr.out, HST3.out, hq.out, hle, HV.out⟩))
          rw [Wμ1 (s := .string (bstr l)) (sh := .func (.func k) #[] cap) (at_ := at_ + 1) (Fr.mk ⟨rfl, rfl, rfl, rfl, rfl, rfl, rfl⟩), HM.out]
          omega
        | succ n =>
          have hn2 : n < 2 := by have := HP.out; omega
          have hq : Hid (n + 1 = 1 ∧ q < 32768 ∨ n + 1 = 2 ∧ q < 512 ∨ n + 1 = 3 ∧ q < 8) := by show _ ∨ _; rw [HQ.out]; have := HP.out; omega
          go_wp2
          go_step3
          rw [then_goto, down_goto, Wμ3 (s := .string (bstr l)) (sh := .func (.func k) #[] cap) (at_ := at_ + 1) (Fr.mk ⟨rfl, rfl, rfl, rfl, rfl, rfl, rfl⟩)]
          exact ⟨⟨vs, r, t, at_ + 1, q, le, n + 1, Fr.mk ⟨rfl, rfl, rfl, rfl, rfl, rfl, rfl⟩, HMM.out, HLR.out, HR.out, by omega, hdr.out, HST3.out, hq.out, hle, HV.out⟩, by rw [HM.out]; omega⟩
      · have HN : Hid (¬ ∃ ws, V l ws) := by
          show ¬ ∃ ws, V l ws
          rw [HLR.out]
          exact none_behind HMM.out HR.out (by rw [HST.out, if_neg h2])
        have hne : at_ < l.length := by omega
        have e1 : ((at_ : Int) == (l.length : Int)) = false := beq_eq_false_iff_ne.2 (by omega)
        have e2 : (((d : Int) / 64) != 2) = true := by simp; omega
        go_wp2
        go_step3
        rw [then_goto, down_goto, Wμ2]
        exact ⟨⟨at_, _, _, _, Fr.mk ⟨rfl, rfl, rfl, rfl, rfl, rfl, rfl⟩, HN.out, vs, HV.out⟩, by have := HM.out; omega⟩
  case p0 =>
    rintro P3 a w ⟨vs, r, p, le, lf, hf, hm, hlr, hv⟩
    have P3' := Lib.hid P3; clear P3
    rw [Wμ0 hf]
    obtain ⟨m, HM⟩ : ∃ m, Hid (m = 4 * (l.length - (E vs).length) + 1) := ⟨_, rfl⟩
    rw [← HM.out]
    obtain ⟨f, rfl⟩ := hf.out
    clear hf
    have HV := Lib.hid hv; clear hv
    have HMM := Lib.hid hm; clear hm
    have HLR := Lib.hid hlr; clear hlr
    have hsz := HD.out
    have hl := HL.out
    have hlen : (E vs).length + r.length = l.length := by rw [← List.length_append, ← HLR.out]
    cases r with
    | nil =>
      have HVV : Hid (V l vs) := ⟨HMM.out, by rw [HLR.out]; simp⟩
      have e0 : (E vs).length = l.length := by simpa using hlen
      have e1 : (((E vs).length : Int) == (l.length : Int)) = true := by rw [e0]; exact beq_self_eq_true _
      go_wp2
      all_goals rw [down_ret]
      go_ret
      exact .inl ⟨vs, HVV.out, rfl, HV.out⟩
    | cons c t =>
      have hlen' : (E vs).length + t.length + 1 = l.length := by simpa [Nat.add_assoc] using hlen
      clear hlen
      have hd0 : l.drop (E vs).length = c :: t := by rw [HLR.out, List.drop_left' rfl]
      have HDR : Hid (l.drop ((E vs).length + 1) = t) := by show l.drop ((E vs).length + 1) = t; rw [← List.drop_drop, hd0]; rfl
      have hix := fun w => byte_at HB.out hd0 w
      have hc256 : c < 256 := HB.out c (by rw [HLR.out]; simp)
      clear hd0
      have e1 : (((E vs).length : Int) == (l.length : Int)) = false := beq_eq_false_iff_ne.2 (by omega)
      have hne : (E vs).length < l.length := by omega
      by_cases h1 : c < 128
      · have HS2 : Hid (st (c :: t) = fur 0 c 0 t) := by show _ = _; rw [st_cons, if_pos h1]
        go_wp2
        go_step3
        rw [block_goto, then_goto, down_goto, Wμ1 (s := .string (bstr l)) (sh := .func (.func k) #[] cap) (at_ := (E vs).length + 1) (Fr.mk ⟨rfl, rfl, rfl, rfl, rfl, rfl, rfl⟩)]
        exact ⟨⟨vs, c :: t, t, (E vs).length + 1, c, 0, lf, Fr.mk ⟨rfl, rfl, rfl, rfl, rfl, rfl, rfl⟩, HMM.out, HLR.out, by simp, by omega, HDR.out, HS2.out, by omega, by omega, HV.out⟩, by rw [HM.out]; omega⟩
      by_cases h2 : c < 192
      · have HN : Hid (¬ ∃ ws, V l ws) := by
          show ¬ ∃ ws, V l ws
          rw [HLR.out]
          exact none_behind HMM.out (by simp) (by rw [st_cons, if_neg h1, if_pos h2])
        go_wp2
        go_step3
        rw [block_goto, then_goto, down_goto, Wμ2]
        exact ⟨⟨(E vs).length + 1, _, _, _, Fr.mk ⟨rfl, rfl, rfl, rfl, rfl, rfl, rfl⟩, HN.out, vs, HV.out⟩, by have := HM.out; omega⟩
      by_cases h3 : c < 224
      · have HS2 : Hid (st (c :: t) = fur 1 (c % 32) 128 t) := by show _ = _; rw [st_cons, if_neg (by omega), if_neg (by omega), if_pos (by omega)]
        have em : Hid (((c : Int) % 32) = ((c % 32 : Nat) : Int)) := by show ((c : Int) % 32) = ((c % 32 : Nat) : Int); omega
        have hc1 : ¬ c < 128 := by omega
        have hc2 : ¬ c < 192 := by omega
        go_wp2
        go_step3
        rename_i K hK
        rw [em.out]
        refine hK _ _ (down_mono ?_ (P3'.out _ _ ⟨vs, c :: t, t, (E vs).length + 1, c % 32, 128, 1, Fr.mk ⟨rfl, rfl, rfl, rfl, rfl, rfl, rfl⟩, HMM.out, HLR.out, by simp, by omega, HDR.out, HS2.out, by omega, by omega, HV.out⟩))
        rw [Wμ3 (s := .string (bstr l)) (sh := .func (.func k) #[] cap) (at_ := (E vs).length + 1) (Fr.mk ⟨rfl, rfl, rfl, rfl, rfl, rfl, rfl⟩), HM.out]
        omega
      by_cases h4 : c < 240
      · have HS2 : Hid (st (c :: t) = fur 2 (c % 16) 2048 t) := by show _ = _; rw [st_cons, if_neg (by omega), if_neg (by omega), if_neg (by omega), if_pos (by omega)]
        have em : Hid (((c : Int) % 16) = ((c % 16 : Nat) : Int)) := by show ((c : Int) % 16) = ((c % 16 : Nat) : Int); omega
        have hc1 : ¬ c < 128 := by omega
        have hc2 : ¬ c < 192 := by omega
        have hc3 : ¬ c < 224 := by omega
        go_wp2
        go_step3
        rename_i K hK
        rw [em.out]
        refine hK _ _ (down_mono ?_ (P3'.out _ _ ⟨vs, c :: t, t, (E vs).length + 1, c % 16, 2048, 2, Fr.mk ⟨rfl, rfl, rfl, rfl, rfl, rfl, rfl⟩, HMM.out, HLR.out, by simp, by omega, HDR.out, HS2.out, by omega, by omega, HV.out⟩))
        rw [Wμ3 (s := .string (bstr l)) (sh := .func (.func k) #[] cap) (at_ := (E vs).length + 1) (Fr.mk ⟨rfl, rfl, rfl, rfl, rfl, rfl, rfl⟩), HM.out]
        omega
      by_cases h5 : c < 248
      · have HS2 : Hid (st (c :: t) = fur 3 (c % 8) 65536 t) := by show _ = _; rw [st_cons, if_neg (by omega), if_neg (by omega), if_neg (by omega), if_neg (by omega), if_pos (by omega)]
        have em : Hid (((c : Int) % 8) = ((c % 8 : Nat) : Int)) := by show ((c : Int) % 8) = ((c % 8 : Nat) : Int); omega
        have hc1 : ¬ c < 128 := by omega
        have hc2 : ¬ c < 192 := by omega
        have hc3 : ¬ c < 224 := by omega
        have hc4 : ¬ c < 240 := by omega
        go_wp2
        go_step3
        rename_i K hK
        rw [em.out]
        refine hK _ _ (down_mono ?_ (P3'.out _ _ ⟨vs, c :: t, t, (E vs).length + 1, c % 8, 65536, 3, Fr.mk ⟨rfl, rfl, rfl, rfl, rfl, rfl, rfl⟩, HMM.out, HLR.out, by simp, by omega, HDR.out, HS2.out, by omega, by omega, HV.out⟩))
        rw [Wμ3 (s := .string (bstr l)) (sh := .func (.func k) #[] cap) (at_ := (E vs).length + 1) (Fr.mk ⟨rfl, rfl, rfl, rfl, rfl, rfl, rfl⟩), HM.out]
        omega
      · have HN : Hid (¬ ∃ ws, V l ws) := by
          show ¬ ∃ ws, V l ws
          rw [HLR.out]
          exact none_behind HMM.out (by simp) (by rw [st_cons, if_neg (by omega), if_neg (by omega), if_neg (by omega), if_neg (by omega), if_neg (by omega)])
        have hc1 : ¬ c < 128 := by omega
        have hc2 : ¬ c < 192 := by omega
        have hc3 : ¬ c < 224 := by omega
        have hc4 : ¬ c < 240 := by omega
        go_wp2
        go_step3
        rw [block_goto, then_goto, down_goto, Wμ2]
        exact ⟨⟨(E vs).length + 1, _, _, _, Fr.mk ⟨rfl, rfl, rfl, rfl, rfl, rfl, rfl⟩, HN.out, vs, HV.out⟩, by have := HM.out; omega⟩
  case first =>
    intro P0
    have P0' := Lib.hid P0; clear P0
    refine ⟨4 * l.length + 1, ?_⟩
    go_wp2
    go_step3
    rename_i K hK
    refine hK _ _ (down_mono ?_ (P0'.out _ _ ⟨[], l, _, _, _, Fr.mk ⟨rfl, rfl, rfl, by rw [E_nil]; rfl, rfl, rfl, rfl⟩, by simp, by rw [E_nil]; rfl, H0.out⟩))
    rw [Wμ0 (s := .string (bstr l)) (sh := .func (.func k) #[] cap) (at_ := 0) (Fr.mk ⟨rfl, rfl, rfl, rfl, rfl, rfl, rfl⟩)]
    omega
end Go.Proofs.Ytnadhpajelkngaa

/- What walks through texts lean on: a function value that is called enters that function; a text has no more code points than bytes. No condition. -/
namespace Go.Proofs.Ytnadhpajelkngaa
open Go.RowKit Go.Deep

theorem enters_of_func {k : Nat} {fn : Func} {c : Code} (hf : Try.prog.funcs[k]? = some fn) (hname : (fn.name == "runtime.NumGoroutine") = false) (hb : fn.body = some c) : ∀ (args : Array Value) (w : World), (callFunc k args).run Try.prog w = .ok (.enter k args) w := Go.Proofs.enters_of hf hname hb
theorem hmf_any : ∀ (fn : Fn) (first cap : Array Value) (w : World), (Instr.makeFunc fn first cap).run Try.prog w = .ok (.func fn first cap) w := fun _ _ _ _ => rfl
end Go.Proofs.Ytnadhpajelkngaa

/- The contract of utf.Valid, over any bytes, texts or not. Condition: no more than 2^40 bytes. -/
namespace Go.Proofs.Ytnadhpajelkngaa
open Go.RowKit Go.Deep

theorem show_none (a b : Int) (w : World) : Calls Try.prog 79 (#[.int .i64 a, .int .i64 b] ++ #[]) w fun e w' => e = .returned (.tuple #[]) ∧ w = w' := by
  go_enter Try.func79, Try.ntmps79
  go_wp2
  go_end0
  exact ⟨rfl, rfl⟩
theorem utfValid_yes {l vs : List Nat} (h : V l vs) (hl : l.length ≤ 1099511627776) (w : World) :
    Calls Try.prog 76 #[.string (bstr l)] w fun e w' => e = .returned (.bool true) ∧ w = w' := by
  have HW := Lib.hid (utfWalk_any 79 (enters_of_func Try.func79 (by kernel_rfl) rfl) #[] l hl (by rw [← h.bytes]; exact E_lt h.may) (fun _ x => x = w)
    (fun vs v w1 hw _ _ => by subst hw; exact (show_none _ _ w1).mono (fun e w' h => ⟨h.1, h.2.symm⟩)) w rfl)
  go_enter Try.func76, Try.ntmps76
  go_wp2_with fail
  refine HW.out.mono ?_
  rintro e w' (⟨ws, hv, rfl, hw⟩ | ⟨hn, _, _⟩)
  · subst hw
    go_wp2
    go_ret
    exact ⟨rfl, rfl⟩
  · exact absurd ⟨vs, h⟩ hn
theorem utfValid_no {l : List Nat} (h : ¬ ∃ vs, V l vs) (hb : ∀ x ∈ l, x < 256) (hl : l.length ≤ 1099511627776) (w : World) :
    Calls Try.prog 76 #[.string (bstr l)] w fun e w' => e = .returned (.bool false) ∧ w = w' := by
  have HW := Lib.hid (utfWalk_any 79 (enters_of_func Try.func79 (by kernel_rfl) rfl) #[] l hl hb (fun _ x => x = w)
    (fun vs v w1 hw _ _ => by subst hw; exact (show_none _ _ w1).mono (fun e w' h => ⟨h.1, h.2.symm⟩)) w rfl)
  go_enter Try.func76, Try.ntmps76
  go_wp2_with fail
  refine HW.out.mono ?_
  rintro e w' (⟨ws, hv, _, hw⟩ | ⟨hn, rfl, _, hw⟩)
  · exact absurd ⟨ws, hv⟩ h
  · subst hw
    go_wp2
    go_ret
    exact ⟨rfl, rfl⟩
end Go.Proofs.Ytnadhpajelkngaa

/- The contract of utf.Count, over any bytes, texts or not. Condition: no more than 2^40 bytes. -/
namespace Go.Proofs.Ytnadhpajelkngaa
open Go.RowKit Go.Deep

/-- The block g of one cell, the call's own, counts. -/
def CountInv (W : World) (g : Nat) (vs : List Nat) (w : World) : Prop := w.rowIs g 3 1 (fun _ => .int .i64 ((vs.length : Nat) : Int)) ∧ Below g W w
theorem CountInv.start (W : World) : CountInv W W.heap.size [] (W.alloc (.cells #[.int .i64 0] 3)) :=
  ⟨World.rowIs_alloc W #[.int .i64 0] 3 (fun _ => .int .i64 (([] : List Nat).length : Int)) (fun i hi => by simp at hi; subst hi; rfl), (Below.refl _ _).alloc (Nat.le_refl _) _⟩
end Go.Proofs.Ytnadhpajelkngaa

/- The contract of utf.Offset, over any bytes, texts or not, and any place. Condition: no more than 2^40 bytes. -/
namespace Go.Proofs.Ytnadhpajelkngaa
open Go.RowKit Go.Deep

theorem cell_new (W : World) (v : Value) (t : TypeId) : (W.alloc (.cells #[v] t)).rowIs W.heap.size t 1 (fun _ => v) := World.rowIs_alloc W #[v] t (fun _ => v) (fun i hi => by simp at hi; subst hi; rfl)
/-- Three blocks of one cell, the call's own: the place that is asked, how many code points there were, how many bytes those ahead of the place have. -/
def OffInv (W : World) (g : Nat) (n : Int) (vs : List Nat) (w : World) : Prop :=
  w.rowIs g 3 1 (fun _ => .int .i64 n) ∧ w.rowIs (g + 1) 3 1 (fun _ => .int .i64 ((vs.length : Nat) : Int)) ∧ w.rowIs (g + 1 + 1) 3 1 (fun _ => .int .i64 (((E (vs.take n.toNat)).length : Nat) : Int)) ∧ Below g W w
theorem OffInv.start (W : World) (n : Int) : OffInv W W.heap.size n [] (((W.alloc (.cells #[.int .i64 n] 3)).alloc (.cells #[.int .i64 0] 3)).alloc (.cells #[.int .i64 0] 3)) := by
  refine ⟨((cell_new W _ _).alloc _).alloc _, ?_, ?_, (((Below.refl _ _).alloc (Nat.le_refl _) _).alloc (by simp) _).alloc (by simp; omega) _⟩
  · have := (cell_new (W.alloc (.cells #[.int .i64 n] 3)) (.int .i64 0) 3).alloc (.cells #[.int .i64 0] 3)
    rw [World.size_alloc] at this
    exact this
  · have := cell_new ((W.alloc (.cells #[.int .i64 n] 3)).alloc (.cells #[.int .i64 0] 3)) (.int .i64 0) 3
    rw [World.size_alloc, World.size_alloc] at this
    rw [List.take_nil, E_nil]
    exact this
end Go.Proofs.Ytnadhpajelkngaa
