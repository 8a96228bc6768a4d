/- Masks and sums of bits, as '&' and '|' of the run make them. Conditions: as each states. (Merged of 3 texts.) -/
import Derived.Test.YtjpjdkdbgjipnaaDoorV0
namespace Go.Proofs.YtjpjdkdbgjipnaaDoor
open Go.ChangeShapes Go.WideShapes Go.ChangeAt Go.RowKit Go.Deep
theorem yy642 : (Tryd.prog.info? 3).map (fun i => (i.zero, i.size, i.bytes)) = some (some (.int .i64 0), 1, 8) := by kernel_rfl
def IntsAt (w : World) (A : Option Addr) (l : List Int) : Prop :=
 l = [] ∨ ∃ b off, A = some ⟨b, off, none⟩ ∧ b < w.heap.size ∧ ∀ (j : Nat) (c : Int), l[j]? = some c → w.cell? ⟨b, off + j, none⟩ = some (.int .i64 c)
def is64 (l : List Int) : List Value := l.map fun x => .int .i64 x
theorem yy403 (a b : List Int) : is64 (a ++ b) = is64 a ++ is64 b := by simp [is64]
theorem IntsAt.of_own {w : World} {base : Nat} {A : Option Addr} {l : List Int} {c n : Nat} (h : w.ownsRow base 3 1 (.slice A n c) n (is64 l)) (hn : n = l.length) : IntsAt w A l := by
 subst hn
 by_cases h0 : l.length = 0
 ·exact .inl (List.eq_nil_of_length_eq_zero h0)
 ·obtain ⟨g, cap, hv, _, hlt⟩ := h.form (by omega)
  injection hv with h1 h2 h3
  subst h1
  subst h3
  refine .inr ⟨g, 0, rfl, hlt, fun j x hx => ?_⟩
  have hj : j < l.length := (List.getElem?_eq_some_iff.1 hx).1
  rw [Nat.zero_add, h.cellAt j (by omega), is64, List.getElem?_map, hx]
  rfl
end Go.Proofs.YtjpjdkdbgjipnaaDoor
namespace Go.Proofs.YtjpjdkdbgjipnaaDoor
def May (v : Nat) : Prop := 0 < v ∧ v ≤ 1114111 ∧ (v < 55296 ∨ 57343 < v)
instance (v : Nat) : Decidable (May v) := by unfold May; infer_instance
theorem May.le {v : Nat} (h : May v) : v ≤ 1114111 := h.2.1
def enc (v : Nat) : List Nat :=
 if v < 128 then [v] else if v < 2048 then [192 + v / 64, 128 + v % 64] else if v < 65536 then [224 + v / 4096, 128 + v / 64 % 64, 128 + v % 64]
 else [240 + v / 262144, 128 + v / 4096 % 64, 128 + v / 64 % 64, 128 + v % 64]
def E (vs : List Nat) : List Nat := vs.flatMap enc
theorem E_nil : E [] = [] := rfl
theorem E_cons (v : Nat) (vs : List Nat) : E (v :: vs) = enc v ++ E vs := by simp [E]
theorem yy86 (a b : List Nat) : E (a ++ b) = E a ++ E b := by simp [E]
theorem E_snoc (a : List Nat) (v : Nat) : E (a ++ [v]) = E a ++ enc v := by simp [E]
theorem yy128 (v : Nat) : (enc v).length = if v < 128 then 1 else if v < 2048 then 2 else if v < 65536 then 3 else 4 := by
 unfold enc; split <;> (try split) <;> (try split) <;> rfl
theorem yy265 (v : Nat) : 0 < (enc v).length := by rw [yy128]; split <;> (try split) <;> (try split) <;> omega
theorem enc_le (v : Nat) : (enc v).length ≤ 4 := by rw [yy128]; split <;> (try split) <;> (try split) <;> omega
theorem enc_lt {v : Nat} (h : v ≤ 1114111) : ∀ x ∈ enc v, x < 256 := by
 intro x hx
 unfold enc at hx
 split at hx <;> (try split at hx) <;> (try split at hx) <;> simp at hx <;> omega
def fur : Nat → Nat → Nat → List Nat → Option (Nat × List Nat)
 | 0, p, least, t => if p < least ∨ ¬ May p then none else some (p, t)
 | _ + 1, _, _, [] => none
 | n + 1, p, least, d :: t => if d / 64 = 2 then fur n (p * 64 + d % 64) least t else none
def st : List Nat → Option (Nat × List Nat)
 | [] => none
 | c :: t => if c < 128 then fur 0 c 0 t else if c < 192 then none else if c < 224 then fur 1 (c % 32) 128 t else if c < 240 then fur 2 (c % 16) 2048 t else if c < 248 then fur 3 (c % 8) 65536 t else none
theorem yy43 (p least : Nat) (t : List Nat) : fur 0 p least t = if p < least ∨ ¬ May p then none else some (p, t) := by cases t <;> rfl
theorem yy216 (n p least : Nat) : fur (n + 1) p least [] = none := rfl
theorem yy58 (n p least d : Nat) (t : List Nat) : fur (n + 1) p least (d :: t) = if d / 64 = 2 then fur n (p * 64 + d % 64) least t else none := rfl
theorem yy46 (c : Nat) (t : List Nat) : st (c :: t) = if c < 128 then fur 0 c 0 t else if c < 192 then none else if c < 224 then fur 1 (c % 32) 128 t else if c < 240 then fur 2 (c % 16) 2048 t else if c < 248 then fur 3 (c % 8) 65536 t else none := rfl
theorem yy181 : ∀ (n p least : Nat) (t : List Nat) (v : Nat) (r : List Nat), fur n p least t = some (v, r) → ∃ ds : List Nat, ds.length = n ∧ t = ds ++ r ∧ (∀ d ∈ ds, d / 64 = 2) ∧ v = ds.foldl (fun a d => a * 64 + d % 64) p ∧ least ≤ v ∧ May v := by
 intro n
 induction n with
 | zero =>
  intro p least t v r h
  rw [yy43] at h
  split at h
  ·cases h
  ·rename_i hn
   injection h with h
   injection h with h1 h2
   subst h1 h2
   refine ⟨[], rfl, rfl, by simp, rfl, by omega, ?_⟩
   by_cases hm : May p
   ·exact hm
   ·exact absurd (Or.inr hm) hn
 | succ n ih =>
  intro p least t v r h
  cases t with
  | nil => rw [yy216] at h; cases h
  | cons d t =>
   rw [yy58] at h
   split at h
   ·rename_i hd
    obtain ⟨ds, h1, h2, h3, h4, h5, h6⟩ := ih _ _ _ _ _ h
    refine ⟨d :: ds, by simp [h1], by simp [h2], ?_, by simpa using h4, h5, h6⟩
    intro x hx
    rcases List.mem_cons.1 hx with rfl | hx
    ·exact hd
    ·exact h3 x hx
   ·cases h
theorem yy129 {l : List Nat} {v : Nat} {r : List Nat} (h : st l = some (v, r)) : May v ∧ l = enc v ++ r := by
 cases l with
 | nil => cases h
 | cons c t =>
  rw [yy46] at h
  split at h
  ·rw [yy43] at h
   split at h
   ·cases h
   ·rename_i hc hn
    injection h with h
    injection h with h1 h2
    subst h1 h2
    refine ⟨?_, by unfold enc; rw [if_pos hc]; rfl⟩
    by_cases hm : May c
    ·exact hm
    ·exact absurd (Or.inr hm) hn
  split at h
  ·cases h
  split at h
  ·obtain ⟨ds, h1, h2, h3, h4, h5, h6⟩ := yy181 _ _ _ _ _ _ h
   match ds, h1 with
   | [d], _ =>
    have hd := h3 d (by simp)
    simp only [List.foldl_cons, List.foldl_nil] at h4
    refine ⟨h6, ?_⟩
    rw [h2, enc, if_neg (by omega), if_pos (by omega)]
    simp only [List.cons_append, List.nil_append, List.cons.injEq, and_true]
    omega
  split at h
  ·obtain ⟨ds, h1, h2, h3, h4, h5, h6⟩ := yy181 _ _ _ _ _ _ h
   match ds, h1 with
   | [d, e], _ =>
    have hd := h3 d (by simp)
    have he := h3 e (by simp)
    simp only [List.foldl_cons, List.foldl_nil] at h4
    refine ⟨h6, ?_⟩
    rw [h2, enc, if_neg (by omega), if_neg (by omega), if_pos (by omega)]
    simp only [List.cons_append, List.nil_append, List.cons.injEq, and_true]
    omega
  split at h
  ·obtain ⟨ds, h1, h2, h3, h4, h5, h6⟩ := yy181 _ _ _ _ _ _ h
   match ds, h1 with
   | [d, e, f], _ =>
    have hd := h3 d (by simp)
    have he := h3 e (by simp)
    have hf := h3 f (by simp)
    simp only [List.foldl_cons, List.foldl_nil] at h4
    refine ⟨h6, ?_⟩
    rw [h2, enc, if_neg (by omega), if_neg (by omega), if_neg (by omega)]
    simp only [List.cons_append, List.nil_append, List.cons.injEq, and_true]
    omega
  ·cases h
theorem fur_ok {v least : Nat} (h : May v) (hl : least ≤ v) : ¬ (v < least ∨ ¬ May v) := fun hh => hh.elim (fun h1 => by omega) (fun h1 => h1 h)
theorem st_enc {v : Nat} (h : May v) (r : List Nat) : st (enc v ++ r) = some (v, r) := by
 have h1 := h.1
 have h2 := h.2.1
 unfold enc
 split
 ·simp only [List.cons_append, List.nil_append]
  rw [yy46, if_pos (by omega), yy43, if_neg (fur_ok h (by omega))]
 split
 ·simp only [List.cons_append, List.nil_append]
  rw [yy46, if_neg (by omega), if_neg (by omega), if_pos (by omega), yy58, if_pos (by omega), show (192 + v / 64) % 32 * 64 + (128 + v % 64) % 64 = v by omega, yy43, if_neg (fur_ok h (by omega))]
 split
 ·simp only [List.cons_append, List.nil_append]
  rw [yy46, if_neg (by omega), if_neg (by omega), if_neg (by omega), if_pos (by omega), yy58, if_pos (by omega), yy58, if_pos (by omega),
   show ((224 + v / 4096) % 16 * 64 + (128 + v / 64 % 64) % 64) * 64 + (128 + v % 64) % 64 = v by omega, yy43, if_neg (fur_ok h (by omega))]
 ·simp only [List.cons_append, List.nil_append]
  rw [yy46, if_neg (by omega), if_neg (by omega), if_neg (by omega), if_neg (by omega), if_pos (by omega), yy58, if_pos (by omega), yy58, if_pos (by omega), yy58, if_pos (by omega),
   show (((240 + v / 262144) % 8 * 64 + (128 + v / 4096 % 64) % 64) * 64 + (128 + v / 64 % 64) % 64) * 64 + (128 + v % 64) % 64 = v by omega, yy43, if_neg (fur_ok h (by omega))]
def V (l vs : List Nat) : Prop := (∀ v ∈ vs, May v) ∧ E vs = l
theorem V.may {l vs : List Nat} (h : V l vs) : ∀ v ∈ vs, May v := h.1
theorem V.bytes {l vs : List Nat} (h : V l vs) : E vs = l := h.2
theorem E_lt {vs : List Nat} (h : ∀ v ∈ vs, May v) : ∀ x ∈ E vs, x < 256 := by
 intro x hx
 obtain ⟨v, hv, hx⟩ := List.mem_flatMap.1 hx
 exact enc_lt (h v hv).le x hx
theorem E_pos {v : Nat} {vs : List Nat} : 0 < (E (v :: vs)).length := by rw [E_cons, List.length_append]; have := yy265 v; omega
theorem E_part : ∀ (vs ws r : List Nat), (∀ v ∈ vs, May v) → (∀ v ∈ ws, May v) → E ws = E vs ++ r → ∃ ws', ws = vs ++ ws' ∧ E ws' = r := by
 intro vs
 induction vs with
 | nil => intro ws r _ _ h; exact ⟨ws, rfl, by simpa [E_nil] using h⟩
 | cons v vs ih =>
  intro ws r hv hw h
  cases ws with
  | nil =>
   have := congrArg List.length h
   rw [E_nil, List.length_append] at this
   have h2 := E_pos (v := v) (vs := vs)
   simp at this
   omega
  | cons w ws =>
   rw [E_cons, E_cons, List.append_assoc] at h
   have h1 := congrArg st h
   rw [st_enc (hw w (by simp)), st_enc (hv v (by simp))] at h1
   injection h1 with h1
   injection h1 with h1 h2
   subst h1
   obtain ⟨ws', h3, h4⟩ := ih ws r (fun x hx => hv x (by simp [hx])) (fun x hx => hw x (by simp [hx])) h2
   exact ⟨ws', by rw [h3]; rfl, h4⟩
theorem V.uniq {l vs ws : List Nat} (h1 : V l vs) (h2 : V l ws) : vs = ws := by
 obtain ⟨ws', h3, h4⟩ := E_part vs ws [] h1.1 h2.1 (by rw [h1.2, h2.2]; simp)
 cases ws' with
 | nil => rw [h3]; simp
 | cons w ws' => have := E_pos (v := w) (vs := ws'); rw [h4] at this; simp at this
theorem V.nil : V [] [] := ⟨by simp, rfl⟩
theorem V.mk {vs : List Nat} (h : ∀ v ∈ vs, May v) : V (E vs) vs := ⟨h, rfl⟩
theorem yy65 {vs r : List Nat} (hv : ∀ v ∈ vs, May v) (hr : r ≠ []) (hs : st r = none) : ¬ ∃ ws, V (E vs ++ r) ws := by
 rintro ⟨ws, hw, he⟩
 obtain ⟨ws', h1, h2⟩ := E_part vs ws r hv hw he
 cases ws' with
 | nil => exact hr h2.symm
 | cons w ws' =>
  rw [E_cons] at h2
  rw [← h2, st_enc (hw w (by rw [h1]; simp))] at hs
  cases hs
theorem yy266 (vs : List Nat) (a b : Nat) (h : a ≤ b) : (E (vs.take a)).length ≤ (E (vs.take b)).length := by
 have : vs.take b = vs.take a ++ (vs.take b).drop a := by
  conv => lhs; rw [← List.take_append_drop a (vs.take b), List.take_take, Nat.min_eq_left h]
 rw [this, yy86, List.length_append]
 omega
theorem yy716 (vs : List Nat) (a b : Nat) (h : a ≤ b) : ((E vs).take (E (vs.take b)).length).drop (E (vs.take a)).length = E ((vs.take b).drop a) := by
 have h1 : E vs = E (vs.take b) ++ E (vs.drop b) := by rw [← yy86, List.take_append_drop]
 have h2 : E (vs.take b) = E (vs.take a) ++ E ((vs.take b).drop a) := by
  rw [← yy86]
  conv => lhs; rw [← List.take_append_drop a (vs.take b), List.take_take, Nat.min_eq_left h]
 rw [h1, List.take_left' rfl, h2, List.drop_left' rfl]
theorem yy149 (vs : List Nat) : vs.length ≤ (E vs).length := by
 induction vs with
 | nil => simp
 | cons v vs ih => rw [E_cons, List.length_append, List.length_cons]; have := yy265 v; omega
attribute [irreducible] E enc st fur
end Go.Proofs.YtjpjdkdbgjipnaaDoor
namespace Go.Proofs.YtjpjdkdbgjipnaaDoor
open Go.RowKit Go.Deep
theorem band_low (c j : Nat) (hc : c < 256) (hj : j ≤ 8) : bits BinOp.and IntKind.u8 (c : Int) ((2 ^ j - 1 : Nat) : Int) = ((c % 2 ^ j : Nat) : Int) := by
 have h1 : (BitVec.ofInt 8 (c : Int)).toNat = c := by rw [BitVec.ofInt_natCast, BitVec.toNat_ofNat]; omega
 have hp : 2 ^ j ≤ 2 ^ 8 := Nat.pow_le_pow_right (by omega) hj
 have h2 : (BitVec.ofInt 8 ((2 ^ j - 1 : Nat) : Int)).toNat = 2 ^ j - 1 := by rw [BitVec.ofInt_natCast, BitVec.toNat_ofNat, Nat.mod_eq_of_lt (by omega)]
 show IntKind.u8.wrap ((BitVec.ofInt 8 (c : Int) &&& BitVec.ofInt 8 ((2 ^ j - 1 : Nat) : Int)).toNat : Int) = _
 rw [BitVec.toNat_and, h1, h2, Nat.and_two_pow_sub_one_eq_mod]
 have h3 : c % 2 ^ j ≤ c := Nat.mod_le _ _
 generalize c % 2 ^ j = x at h3
 unfold IntKind.wrap
 simp [IntKind.bits, IntKind.signed]
 omega
theorem bor6 (a d : Nat) (ha : a < 32768) : bits BinOp.or IntKind.i64 ((a : Int) * 64) ((d : Int) % 64) = ((a * 64 + d % 64 : Nat) : Int) := by
 have e : ((d : Int) % 64) = ((d % 64 : Nat) : Int) := by omega
 rw [e]
 have hm : d % 64 < 64 := Nat.mod_lt _ (by omega)
 generalize d % 64 = m at hm
 have h1 : (BitVec.ofInt 64 ((a : Int) * 64)).toNat = a * 64 := by
  rw [show ((a : Int) * 64) = ((a * 64 : Nat) : Int) by omega, BitVec.ofInt_natCast, BitVec.toNat_ofNat]; omega
 have h2 : (BitVec.ofInt 64 (m : Int)).toNat = m := by rw [BitVec.ofInt_natCast, BitVec.toNat_ofNat]; omega
 show IntKind.i64.wrap ((BitVec.ofInt 64 ((a : Int) * 64) ||| BitVec.ofInt 64 (m : Int)).toNat : Int) = _
 rw [BitVec.toNat_or, h1, h2, show a * 64 = a <<< 6 by rw [Nat.shiftLeft_eq], ← Nat.shiftLeft_add_eq_or_of_lt (by omega : m < 2 ^ 6), Nat.shiftLeft_eq, IntKind.wrap_i64]
 omega
theorem band64 (c j : Nat) (hc : c < 256) (hj : j ≤ 8) : bits BinOp.and IntKind.i64 (c : Int) ((2 ^ j - 1 : Nat) : Int) = ((c % 2 ^ j : Nat) : Int) := by
 have h1 : (BitVec.ofInt 64 (c : Int)).toNat = c := by rw [BitVec.ofInt_natCast, BitVec.toNat_ofNat]; omega
 have hp : 2 ^ j ≤ 2 ^ 8 := Nat.pow_le_pow_right (by omega) hj
 have h2 : (BitVec.ofInt 64 ((2 ^ j - 1 : Nat) : Int)).toNat = 2 ^ j - 1 := by rw [BitVec.ofInt_natCast, BitVec.toNat_ofNat, Nat.mod_eq_of_lt (by omega)]
 show IntKind.i64.wrap ((BitVec.ofInt 64 (c : Int) &&& BitVec.ofInt 64 ((2 ^ j - 1 : Nat) : Int)).toNat : Int) = _
 rw [BitVec.toNat_and, h1, h2, Nat.and_two_pow_sub_one_eq_mod, IntKind.wrap_i64]
 have h3 : c % 2 ^ j ≤ c := Nat.mod_le _ _
 omega
end Go.Proofs.YtjpjdkdbgjipnaaDoor
