/- The normal form of an edit, as the document's own code makes it, in plain mathematics. No condition. -/
import Derived.Test.YtgdojhccdicapaaOpMath
namespace Go.Proofs.Ytgdojhccdicapaa

/-- What came ahead of a part that keeps: what was made, what is to be kept, deleted, put in. -/
structure NS where
  out : List CompV
  keep : Int
  gone : Int
  text : List Nat
def keepOf (n : Int) : List CompV := if 0 < n then [⟨1, n, []⟩] else []
def textOf (t : List Nat) : List CompV := if t = [] then [] else [⟨2, 0, t⟩]
def goneOf (n : Int) : List CompV := if 0 < n then [⟨3, n, []⟩] else []
def NS.flush (s : NS) : List CompV := s.out ++ keepOf s.keep ++ textOf s.text ++ goneOf s.gone
def nStep (s : NS) (c : CompV) : NS :=
  if c.kind = 2 then { s with text := s.text ++ c.text } else if c.kind = 3 then { s with gone := hld s.gone c.n } else if c.kind ≠ 1 ∨ c.n < 1 then s
  else if s.text ≠ [] ∨ 0 < s.gone then ⟨s.flush, hld 0 c.n, 0, []⟩ else { s with keep := hld s.keep c.n }
def nStart : NS := ⟨[], 0, 0, []⟩
def nRun (l : List CompV) : NS := l.foldl nStep nStart
/-- The normal form. -/
def rNormal (l : List CompV) : List CompV := (nRun l).flush
theorem nRun_snoc (l : List CompV) (c : CompV) : nRun (l ++ [c]) = nStep (nRun l) c := by rw [nRun, List.foldl_append]; rfl
structure NS.Fit (s : NS) (n m : Nat) : Prop where
  keep0 : 0 ≤ s.keep
  keep1 : s.keep ≤ 1099511627776
  gone0 : 0 ≤ s.gone
  gone1 : s.gone ≤ 1099511627776
  out : s.out.length ≤ n
  text : s.text.length ≤ m
theorem flush_length (s : NS) : s.flush.length ≤ s.out.length + 3 := by
  unfold NS.flush keepOf textOf goneOf
  simp only [List.length_append]
  split <;> split <;> split <;> simp <;> omega
theorem nStep_fit {s : NS} {n m : Nat} (h : s.Fit n m) (c : CompV) : (nStep s c).Fit (n + 3) (m + c.text.length) := by
  have h1 := h.keep0; have h2 := h.keep1; have h3 := h.gone0; have h4 := h.gone1; have h5 := h.out; have h6 := h.text
  have hf := flush_length s
  unfold nStep
  split
  · exact ⟨h1, h2, h3, h4, by show s.out.length ≤ _; omega, by show (s.text ++ c.text).length ≤ _; rw [List.length_append]; omega⟩
  · split
    · exact ⟨h1, h2, hld_pos _ _, hld_top _ _, by show s.out.length ≤ _; omega, by show s.text.length ≤ _; omega⟩
    · split
      · exact ⟨h1, h2, h3, h4, by omega, by omega⟩
      · split
        · exact ⟨hld_pos _ _, hld_top _ _, Int.le_refl _, by show (0 : Int) ≤ _; omega, by show s.flush.length ≤ _; omega, Nat.zero_le _⟩
        · exact ⟨hld_pos _ _, hld_top _ _, h3, h4, by show s.out.length ≤ _; omega, by show s.text.length ≤ _; omega⟩
/-- How many bytes the texts of an edit have. -/
def tlen (l : List CompV) : Nat := (l.flatMap CompV.text).length
theorem run_fit (l : List CompV) : (nRun l).Fit (3 * l.length) (tlen l) := by
  have : ∀ (l : List CompV) (s : NS) (n m : Nat), s.Fit n m → (l.foldl nStep s).Fit (n + 3 * l.length) (m + tlen l) := by
    intro l
    induction l with
    | nil => intro s n m h; simpa [tlen] using h
    | cons c l ih =>
      intro s n m h
      rw [List.foldl_cons]
      have := ih (nStep s c) _ _ (nStep_fit h c)
      rw [show tlen (c :: l) = c.text.length + tlen l by simp [tlen], List.length_cons]
      rwa [show n + 3 * (l.length + 1) = n + 3 + 3 * l.length by omega, ← Nat.add_assoc]
  have h := this l nStart 0 0 ⟨Int.le_refl _, by show (0 : Int) ≤ _; omega, Int.le_refl _, by show (0 : Int) ≤ _; omega, Nat.zero_le _, Nat.zero_le _⟩
  rw [Nat.zero_add, Nat.zero_add] at h
  exact h
theorem tlen_append (a b : List CompV) : tlen (a ++ b) = tlen a + tlen b := by rw [tlen, List.flatMap_append, List.length_append]; rfl
theorem tlen_take (l : List CompV) (k : Nat) : tlen (l.take k) ≤ tlen l := by
  have e := congrArg tlen (List.take_append_drop k l)
  have := tlen_append (l.take k) (l.drop k)
  omega
theorem tlen_get {l : List CompV} {k : Nat} (h : k < l.length) : tlen (l.take k) + l[k].text.length ≤ tlen l := by
  have h1 := tlen_take l (k + 1)
  rw [List.take_succ_eq_append_getElem h] at h1
  have h2 := tlen_append (l.take k) [l[k]]
  have : tlen [l[k]] = l[k].text.length := by simp [tlen]
  omega
end Go.Proofs.Ytgdojhccdicapaa
