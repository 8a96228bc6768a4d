/- The document's own disk: the contract of Write. Condition: fewer than 2^20 writes in the cache, fewer than 2^40 acts. -/
import Derived.Test.YtahfkcfbmklfpaaRefDisk
import Derived.Test.YtahfkcfbmklfpaaAppend
import Derived.Test.YtahfkcfbmklfpaaOwn
namespace Go.Proofs.Ytahfkcfbmklfpaa
open Go.RowKit Go.Deep

def DiskD.write (D : DiskD) (at_ : Int) (l : List Nat) : DiskD × Nat :=
  if D.act.2 ≠ 0 then D.act else if at_ < 0 ∨ (D.safe.length : Int) ≤ at_ ∨ l.length ≠ 64 then (D.act.1, 1) else (⟨D.safe, D.cache ++ [(at_.toNat, l)], D.act.1.left, D.act.1.off, D.act.1.ops⟩, 0)
theorem act_safe (D : DiskD) : D.act.1.safe = D.safe ∧ D.act.1.cache = D.cache := by unfold DiskD.act; split <;> exact ⟨rfl, rfl⟩
theorem BytesAt.onlyA {g : Nat} {w w' : World} {A : Option Addr} {l : List Nat} (h : BytesAt w A l) (ho : Only g w w') (hA : ∀ a, A = some a → a.block ≠ g) : BytesAt w' A l := by
  cases A with
  | none =>
    rcases h with h | ⟨_, _, e, _⟩
    · exact .inl h
    · cases e
  | some a =>
    rcases h with h | ⟨b, off, e, hlt, hc⟩
    · exact .inl h
    · rw [e] at hA ⊢
      exact BytesAt.only (.inr ⟨b, off, rfl, hlt, hc⟩) ho (hA _ rfl)
theorem own_off {w : World} {base g : Nat} {e : TypeId} {size : Nat} {A : Option Addr} {n c : Nat} {xs : List Value} (h : w.ownsRow base e size (.slice A n c) n xs) (hg : g < base) : ∀ a, A = some a → a.block ≠ g := by
  intro a ha
  subst ha
  have := h.lt a.block rfl
  omega
theorem own_far {F : Nat → Prop} {w : World} {base : Nat} {e : TypeId} {size : Nat} {A : Option Addr} {n c : Nat} {xs : List Value} (h : w.ownsRow base e size (.slice A n c) n xs) (hF : ∀ b, F b → b < base) : ∀ a, A = some a → ¬F a.block := by
  intro a ha hf
  subst ha
  have := h.lt a.block rfl
  have := hF _ hf
  omega
theorem rs_one {g : Nat → Prop} {w : World} {rs : List (Nat × Value)} {cache : List (Nat × List Nat)} (h : Match (fun (r : Nat × Value) p => r.1 = p.1 ∧ SecV g w r.2 (some p.2)) rs cache) : ∀ u ∈ rs.flatMap recCells, u.oneCell' = true := by
  intro u hu
  obtain ⟨r, hr, hu⟩ := List.mem_flatMap.1 hu
  obtain ⟨i, hi⟩ := List.getElem?_of_mem hr
  have hl : i < cache.length := by rw [← h.1]; exact (List.getElem?_eq_some_iff.1 hi).1
  have h2 := (h.2 i r cache[i] hi (List.getElem?_eq_getElem hl)).2
  simp only [recCells, List.mem_cons, List.not_mem_nil, or_false] at hu
  rcases hu with rfl | rfl
  · rfl
  · rcases h2 with ⟨_, e⟩ | ⟨_, _, _, _, _, e, _⟩
    · rw [e]; rfl
    · rw [e]; rfl

end Go.Proofs.Ytahfkcfbmklfpaa
