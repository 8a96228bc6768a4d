/- The document's own disk: the contract of Flush. Condition: fewer than 2^20 sectors and writes in the cache, fewer than 2^40 acts; each write of the cache is of a sector that there is. -/
import Derived.Test.YtahfkcfbmklfpaaRefDiskRead
import Derived.Test.YtahfkcfbmklfpaaHeld
import Derived.BigQuiet
namespace Go.Proofs.Ytahfkcfbmklfpaa
open Go.RowKit Go.Deep

theorem own_set {w : World} {base : Nat} {e : TypeId} {b n c : Nat} {xs : List Value} (h : w.ownsRow base e 1 (.slice (some ⟨b, 0, none⟩) n c) n xs) {q : Nat} (v : Value) : (w.setCell ⟨b, q, none⟩ v).ownsRow base e 1 (.slice (some ⟨b, 0, none⟩) n c) n (xs.set q v) := by
  refine ⟨by rw [List.length_set]; exact h.1, ?_⟩
  rcases h.2 with ⟨h0, _⟩ | ⟨g, cap, cur, hv, hb, hh, h1, h2, hsz, htk⟩
  · cases h0
  · injection hv with hv hn hc
    injection hv with hv
    injection hv with hv
    subst hv hc
    refine .inr ⟨b, c, cur.setIfInBounds q v, rfl, hb, ?_, h1, h2, by simpa using hsz, ?_⟩
    · simp [World.setCell, Array.getElem?_modify, hh]
    · rw [Array.toList_setIfInBounds, List.take_set, htk]
theorem own_cell {w : World} {base : Nat} {e : TypeId} {b n c : Nat} {xs : List Value} (h : w.ownsRow base e 1 (.slice (some ⟨b, 0, none⟩) n c) n xs) {q : Nat} (hq : q < n) : ∃ u, w.cell? ⟨b, q, none⟩ = some u ∧ w.frozen? ⟨b, q, none⟩ = false := by
  rcases h.2 with ⟨h0, _⟩ | ⟨g, cap, cur, hv, hb, hh, h1, h2, hsz, htk⟩
  · cases h0
  · injection hv with hv hn hc
    injection hv with hv
    injection hv with hv
    subst hv hc
    refine ⟨cur[q]'(by omega), ?_, by simp [World.frozen?, hh]⟩
    have hl : q < cur.size := by omega
    simp [World.cell?, hh, Array.getElem?_eq_getElem hl]
/-- All that is in the cache is safe. -/
def fold (cache : List (Nat × List Nat)) (safe : List (Option (List Nat))) : List (Option (List Nat)) := cache.foldl (fun s p => s.set p.1 (some p.2)) safe
theorem fold_take (cache : List (Nat × List Nat)) (safe : List (Option (List Nat))) (k : Nat) (h : k < cache.length) : fold (cache.take (k + 1)) safe = (fold (cache.take k) safe).set cache[k].1 (some cache[k].2) := by
  rw [fold, List.take_succ_eq_append_getElem h, List.foldl_append]
  rfl
theorem fold_length (cache : List (Nat × List Nat)) : ∀ safe, (fold cache safe).length = safe.length := by
  induction cache with
  | nil => intro safe; rfl
  | cons p l ih => intro safe; rw [fold, List.foldl_cons]; exact (ih _).trans (by simp)
def DiskD.flush (D : DiskD) : DiskD × Nat := if D.act.2 ≠ 0 then D.act else (⟨fold D.cache D.safe, [], D.act.1.left, D.act.1.off, D.act.1.ops⟩, 0)
def DiskD.WF (D : DiskD) : Prop := ∀ p ∈ D.cache, p.1 < D.safe.length
theorem vs_one {F : Nat → Prop} {w : World} {vs : List Value} {safe : List (Option (List Nat))} (h : Match (SecV F w) vs safe) : ∀ u ∈ vs, u.oneCell' = true := by
  intro u hu
  obtain ⟨i, hi⟩ := List.getElem?_of_mem hu
  have hl : i < safe.length := by rw [← h.1]; exact (List.getElem?_eq_some_iff.1 hi).1
  rcases h.2 i u safe[i] hi (List.getElem?_eq_getElem hl) with ⟨_, e⟩ | ⟨_, _, _, _, _, e, _⟩
  · rw [e]; rfl
  · rw [e]; rfl

end Go.Proofs.Ytahfkcfbmklfpaa
