/- A range over a function that writes what it holds itself: the caller's word must outlast these steps, too. (Merged of 2 texts.) -/
import Derived.RangeFuncFrom
import Derived.Test.YtkckgchohnkkpaaGreatDoorMBase
/- A range over a function whose round lays its variable in a box of its own: what is set at a round's begin may lay blocks. -/
namespace Go.Proofs.YtkckgchohnkkpaaGreatDoor
open Go.RowKit

variable {F : Fence} {n : Nat} {P : Program} {α : Type}
/-- The record of the loop. -/
def lpRec (a : Act) (fn : FuncId) (ps : Array Tmp) (assign body : Code) (b : Nat) (st : LoopState) (pe : Option Code) : Loop :=
  { state := st, pending := pe, fn := fn, tmps := a.tmps, params := ps, assign := assign, body := body, defers := b }
/-- What lies in both blocks of the loop. -/
def LpAt (b : Nat) (r : Loop) (W : World) : Prop := W.heap[b + 1]? = some (.loop r) ∧ W.heap[b]? = some (.deferred (some []))
theorem LpAt.others {b : Nat} {r : Loop} {W W' : World} (h : LpAt b r W) (k : KeepsOthers W W') : LpAt b r W' := ⟨k.same _ _ h.1 rfl, k.same _ _ h.2 rfl⟩
theorem LpAt.put {b : Nat} {r : Loop} {W : World} (h : LpAt b r W) (r' : Loop) : LpAt b r' (W.putObj (b + 1) (.loop r')) :=
  ⟨World.putObj_heap_same (Array.getElem?_eq_some_iff.1 h.1).1, (World.putObj_heap_other (by omega)).trans h.2⟩
theorem LpAt.walk {b : Nat} {r : Loop} {W W' : World} {row : Option Nat} (h : LpAt b r W) (hg : W.grownBy W' row) (hr : ∀ k, row = some k → ∃ o : Obj, W.heap[k]? = some o ∧ o.isWalk = true) : LpAt b r W' :=
  ⟨(grownBy_keeps hg hr h.1 rfl).trans h.1, (grownBy_keeps hg hr h.2 rfl).trans h.2⟩

theorem wpIn_rangeFunc_box {g : Operand} {ps : Array Tmp} {assign body : Code} {Q : Exit → Act → World → Prop} {a : Act} {w : World}
    (hro : F.round = none) (h1 : 1 ≤ n) {gf : Nat} {lb : Array Value} (hg : a.eval g = .func (.func gf) #[] lb) (hFg : F.fn gf) (eg : ∀ args w, (callFunc gf args).run P w = .ok (.enter gf args) w)
    {encs : α → Array Value} {Kp : World → World → Prop} {S Sp : List α → Prop} {N : Nat} {w0 : World} (hseq : SeqStopsK F (n - 1) P gf lb encs Kp S Sp N w0)
    (hKt : ∀ {A B C : World}, Kp A B → Kp B C → Kp A C) (hKb : ∀ (W : World) (l : Nat) (o o' : Obj), w.heap.size ≤ l → W.heap[l]? = some o → o.isCells = false → o.isWalk = false → Kp W (W.putObj l o')) (hb0 : Below w0.heap.size w0 w) (hps : ∀ x, (encs x).size = ps.size)
    (I : List α → World → Prop) (Ix : Code → List α → World → Prop) (I2 : List α × α × Act → World → Prop) (hI : OwnFrom w.heap.size I) (hI2 : OwnFrom w.heap.size I2) (hIx : ∀ c, OwnFrom w.heap.size (Ix c)) (h0 : I [] w)
    (hassign : ∀ (l : Nat) (pre : List α) (x : α) (W : World) (K : Act → World → Prop), I pre W → w.heap.size ≤ W.heap.size → (∀ a₁ W₁, I2 (pre, x, a₁) W₁ → KeepsOthers W W₁ → Kp W W₁ → K a₁ W₁) →
      assign.wpIn (F.inRound l) (n - 1 - 1) P (Exit.then K (fun _ _ _ => False)) { tmps := (ps.zip (encs x)).foldl (fun t (p, v) => t.setIfInBounds p v) a.tmps, defers := [] } W)
    (hbody : ∀ (l : Nat) (pre : List α) (x : α) (a₁ : Act) (W : World), I2 (pre, x, a₁) W → pre.length < N → body.wpIn (F.inRound l) (n - 1 - 1) P (ownPostK Kp I Ix (pre ++ [x]) W) a₁ W)
    (hdone : ∀ (D : Nat) (xs : List α) (W : World), w.heap.size ≤ D → S xs → I xs W → W.heap[D]? = some (.deferred (some [])) → Q .normal { a with defers := { target := .collected D, args := #[] } :: a.defers } W)
    (hstop : ∀ (D : Nat) (c : Code) (pre : List α) (W : World), w.heap.size ≤ D → Sp pre → Ix c pre W → W.heap[D]? = some (.deferred (some [])) → c.wpIn F n P Q { a with defers := { target := .collected D, args := #[] } :: a.defers } W) :
    (Code.rangeFunc g ps assign body).wpIn F n P Q a w := by
  refine wpIn_rangeFunc fun fn hfn => ?_
  rw [hro]
  have hrun := run_enterLoop_outer (P := P) (w := w) fn a.tmps ps assign body
  have L1 : LpAt w.heap.size (lpRec a fn ps assign body w.heap.size .ready none) ((w.alloc (.deferred (some []))).alloc (.loop (lpRec a fn ps assign body w.heap.size .ready none))) := by
    have e := World.alloc_heap_new (w.alloc (.deferred (some []))) (.loop (lpRec a fn ps assign body w.heap.size .ready none))
    rw [World.size_alloc] at e
    exact ⟨e, (Below.heap_alloc _ _ _ (by simp)).trans (World.alloc_heap_new w _)⟩
  have hI1 := hI.alloc (.loop (lpRec a fn ps assign body w.heap.size .ready none)) (hI.alloc (.deferred (some [])) h0)
  have hb1 : Below w0.heap.size w0 ((w.alloc (.deferred (some []))).alloc (.loop (lpRec a fn ps assign body w.heap.size .ready none))) := hb0.trans ((((Below.refl _ w).alloc (Nat.le_refl _) _).alloc (by simp) _).mono hb0.size)
  have hs1 : ((w.alloc (.deferred (some []))).alloc (.loop (lpRec a fn ps assign body w.heap.size .ready none))).heap.size = w.heap.size + 1 + 1 := by simp
  refine ⟨w.heap.size + 1, [{ target := .collected w.heap.size, args := #[] }], (w.alloc (.deferred (some []))).alloc (.loop (lpRec a fn ps assign body w.heap.size .ready none)), { target := .fn (.func gf) lb, args := #[.func (.yield (w.heap.size + 1)) #[] #[]] }, (w.alloc (.deferred (some []))).alloc (.loop (lpRec a fn ps assign body w.heap.size .ready none)), gf,
    #[.func (.yield (w.heap.size + 1)) #[] #[]] ++ lb, (w.alloc (.deferred (some []))).alloc (.loop (lpRec a fn ps assign body w.heap.size .ready none)), hrun, ?_, ?_, ?_, fun _ => h1, ?_⟩
  · simp only [resolve, hg]
    simp [go_sem]
  · intro f' hf'
    simp [Target.leads] at hf'
    subst hf'
    exact hFg
  · simp [invoke, go_sem, eg]
  generalize (w.alloc (.deferred (some []))).alloc (.loop (lpRec a fn ps assign body w.heap.size .ready none)) = W1 at L1 hI1 hb1 hs1 ⊢
  have far : ∀ {A : World} {row : Option Nat}, (∀ r, row = some r → W1.heap.size ≤ r ∧ ∃ o : Obj, A.heap[r]? = some o ∧ o.isWalk = true) → ∀ r, row = some r → w.heap.size ≤ r ∧ ∃ o : Obj, A.heap[r]? = some o ∧ o.isCells = false := fun hr r e => by
    obtain ⟨hB, o, ho, hw⟩ := hr r e
    exact ⟨by omega, o, ho, Obj.not_cells_of_walk hw⟩
  refine (hseq (w.heap.size + 1) (fun pre W => (I pre W ∧ w.heap.size ≤ W.heap.size) ∧ LpAt w.heap.size (lpRec a fn ps assign body w.heap.size .ready none) W)
    (fun pre W => ∃ c, Ix c pre W ∧ LpAt w.heap.size (lpRec a fn ps assign body w.heap.size .done (some c)) W) W1 hb1
    (fun s A B row hs hgr hr => ⟨⟨hI s A B row hs.1.1 hgr (far hr), Nat.le_trans hs.1.2 hgr.size⟩, hs.2.walk hgr fun k e => (hr k e).2⟩)
    (fun s A B row hs hgr hr => by
      obtain ⟨c, hc, hl⟩ := hs
      exact ⟨c, hIx c s A B row hc hgr (far hr), hl.walk hgr fun k e => (hr k e).2⟩) ?_ ⟨⟨hI1, by omega⟩, L1⟩).mono ?_
  · rintro pre x W ⟨⟨hi, hsz⟩, hl⟩ hlen
    have hy := run_yield (P := P) (args := encs x) hl.1 (hps x)
    refine ⟨fn, _, assign, body, hy, roundIn_of_wpIn hfn (hassign _ pre x W _ hi hsz fun a₁ W₁ hi2 hko hkp => ?_)⟩
    have hl1 := hl.others hko
    refine ⟨_, run_beginRound hl1.1 rfl, ?_⟩
    have hl2 := hl1.put (lpRec a fn ps assign body w.heap.size .busy none)
    have hw2 : Kp W₁ (W₁.putObj (w.heap.size + 1) (.loop (lpRec a fn ps assign body w.heap.size .busy none))) := hKb _ _ _ _ (by omega) hl1.1 rfl rfl
    have hi3 := hI2.putObj (.loop (lpRec a fn ps assign body w.heap.size .busy none)) hi2 (by omega) hl1.1 rfl
    refine wpIn_mono (hbody _ pre x a₁ _ hi3 hlen) ?_
    have fin : ∀ (j : Option Code) (W3 : World), KeepsOthers (W₁.putObj (w.heap.size + 1) (.loop (lpRec a fn ps assign body w.heap.size .busy none))) W3 →
        (Instr.endRound (w.heap.size + 1) j).run P W3 = .ok (.bool j.isNone) (W3.putObj (w.heap.size + 1) (.loop (lpRec a fn ps assign body w.heap.size (if j.isNone then .ready else .done) j))) ∧ LpAt w.heap.size (lpRec a fn ps assign body w.heap.size .busy none) W3 := fun j W3 hk3 => by
      have h3 := hl2.others hk3
      exact ⟨run_endRound (P := P) j h3.1, h3⟩
    rintro e a3 W3 hp
    cases e with
    | normal =>
      obtain ⟨hk3, hkp3, hi4⟩ := hp
      obtain ⟨hr, h3⟩ := fin none W3 hk3
      have := hk3.size
      have hs3 : W₁.heap.size ≤ W3.heap.size := by simpa using hk3.size
      refine ⟨_, _, hr, .inl ⟨rfl, ⟨⟨hI.putObj _ hi4 (by omega) h3.1 rfl, by have := hko.size; simp; omega⟩, h3.put _⟩, hKt hkp (hKt (hKt hw2 hkp3) (hKb _ _ _ _ (by omega) h3.1 rfl rfl))⟩⟩
    | ret =>
      obtain ⟨hr, h3⟩ := fin (some .ret) W3 hp.1
      exact ⟨_, _, hr, .inr ⟨rfl, .ret, (hIx _).putObj _ hp.2 (by omega) h3.1 rfl, h3.put _⟩⟩
    | exit id =>
      obtain ⟨hr, h3⟩ := fin (some (.exit id)) W3 hp.1
      exact ⟨_, _, hr, .inr ⟨rfl, .exit id, (hIx _).putObj _ hp.2 (by omega) h3.1 rfl, h3.put _⟩⟩
    | goto t =>
      obtain ⟨hr, h3⟩ := fin (some (.goto t)) W3 hp.1
      exact ⟨_, _, hr, .inr ⟨rfl, .goto t, (hIx _).putObj _ hp.2 (by omega) h3.1 rfl, h3.put _⟩⟩
    | panic ch => exact hp.elim
    | outgrown => exact hp.elim
  · rintro e W2 ⟨⟨v, rfl⟩, (⟨xs, hS, ⟨hi, _⟩, hl⟩ | ⟨pre, hSp, c, hi, hl⟩)⟩
    · exact ⟨none, _, run_endLoop (P := P) hl.1 (by simp [lpRec]), hdone _ xs _ (Nat.le_refl _) hS (hI.putObj _ hi (by omega) hl.1 rfl) ((World.putObj_heap_other (by omega)).trans hl.2)⟩
    · exact ⟨some c, _, run_endLoop (P := P) hl.1 (by simp [lpRec]), hstop _ c pre _ (Nat.le_refl _) hSp ((hIx c).putObj _ hi (by omega) hl.1 rfl) ((World.putObj_heap_other (by omega)).trans hl.2)⟩
end Go.Proofs.YtkckgchohnkkpaaGreatDoor

/- A range over a function that writes what it holds itself: the caller's word must outlast these steps, too. -/
namespace Go.Proofs.YtkckgchohnkkpaaGreatDoor
open Go.RowKit

variable {F : Fence} {n : Nat} {P : Program} {α : Type}
/-- The contract of a function that is ranged over, St its own steps. -/
def SeqStopsS (F : Fence) (n : Nat) (P : Program) (g : Nat) (lb : Array Value) (encs : α → Array Value) (Kp St : World → World → Prop) (S Sp : List α → Prop) (N : Nat) (w : World) : Prop :=
  ∀ (l : Nat) (J Jx : List α → World → Prop) (W : World), Below w.heap.size w W → AbidesFrom W.heap.size J → AbidesFrom W.heap.size Jx → (∀ pre W1 W2, J pre W1 → St W1 W2 → J pre W2) →
    (∀ pre x W1, J pre W1 → pre.length < N → YieldAt F (n - 1) P l (encs x) W1 fun e W' =>
      (e = .returned (.bool true) ∧ J (pre ++ [x]) W' ∧ Kp W1 W') ∨ (e = .returned (.bool false) ∧ Jx (pre ++ [x]) W')) →
    J [] W →
    CallsIn F n P g (#[.func (.yield l) #[] #[]] ++ lb) W fun e W' => (∃ v, e = .returned v) ∧ ((∃ xs, S xs ∧ J xs W') ∨ (∃ pre, Sp pre ∧ Jx pre W'))
theorem wpIn_rangeFunc_step {g : Operand} {ps : Array Tmp} {assign body : Code} {Q : Exit → Act → World → Prop} {a : Act} {w : World}
    (hro : F.round = none) (h1 : 1 ≤ n) {gf : Nat} {lb : Array Value} (hg : a.eval g = .func (.func gf) #[] lb) (hFg : F.fn gf) (eg : ∀ args w, (callFunc gf args).run P w = .ok (.enter gf args) w)
    {encs : α → Array Value} {Kp St : World → World → Prop} {S Sp : List α → Prop} {N : Nat} {w0 : World} (hseq : SeqStopsS F (n - 1) P gf lb encs Kp St S Sp N w0)
    (hKt : ∀ {A B C : World}, Kp A B → Kp B C → Kp A C) (hKb : ∀ (W : World) (l : Nat) (o o' : Obj), w.heap.size ≤ l → W.heap[l]? = some o → o.isCells = false → o.isWalk = false → Kp W (W.putObj l o')) (hb0 : Below w0.heap.size w0 w) (hps : ∀ x, (encs x).size = ps.size)
    (I : List α → World → Prop) (Ix : Code → List α → World → Prop) (I2 : List α × α × Act → World → Prop) (hI : OwnFrom w.heap.size I) (hI2 : OwnFrom w.heap.size I2) (hIx : ∀ c, OwnFrom w.heap.size (Ix c)) (h0 : I [] w) (hSO : ∀ {X Y : World}, St X Y → KeepsOthers X Y) (hIS : ∀ {pre : List α} {X Y : World}, I pre X → St X Y → I pre Y)
    (hassign : ∀ (l : Nat) (pre : List α) (x : α) (W : World) (K : Act → World → Prop), I pre W → w.heap.size ≤ W.heap.size → (∀ a₁ W₁, I2 (pre, x, a₁) W₁ → KeepsOthers W W₁ → Kp W W₁ → K a₁ W₁) →
      assign.wpIn (F.inRound l) (n - 1 - 1) P (Exit.then K (fun _ _ _ => False)) { tmps := (ps.zip (encs x)).foldl (fun t (p, v) => t.setIfInBounds p v) a.tmps, defers := [] } W)
    (hbody : ∀ (l : Nat) (pre : List α) (x : α) (a₁ : Act) (W : World), I2 (pre, x, a₁) W → pre.length < N → body.wpIn (F.inRound l) (n - 1 - 1) P (ownPostK Kp I Ix (pre ++ [x]) W) a₁ W)
    (hdone : ∀ (D : Nat) (xs : List α) (W : World), w.heap.size ≤ D → S xs → I xs W → W.heap[D]? = some (.deferred (some [])) → Q .normal { a with defers := { target := .collected D, args := #[] } :: a.defers } W)
    (hstop : ∀ (D : Nat) (c : Code) (pre : List α) (W : World), w.heap.size ≤ D → Sp pre → Ix c pre W → W.heap[D]? = some (.deferred (some [])) → c.wpIn F n P Q { a with defers := { target := .collected D, args := #[] } :: a.defers } W) :
    (Code.rangeFunc g ps assign body).wpIn F n P Q a w := by
  refine wpIn_rangeFunc fun fn hfn => ?_
  rw [hro]
  have hrun := run_enterLoop_outer (P := P) (w := w) fn a.tmps ps assign body
  have L1 : LpAt w.heap.size (lpRec a fn ps assign body w.heap.size .ready none) ((w.alloc (.deferred (some []))).alloc (.loop (lpRec a fn ps assign body w.heap.size .ready none))) := by
    have e := World.alloc_heap_new (w.alloc (.deferred (some []))) (.loop (lpRec a fn ps assign body w.heap.size .ready none))
    rw [World.size_alloc] at e
    exact ⟨e, (Below.heap_alloc _ _ _ (by simp)).trans (World.alloc_heap_new w _)⟩
  have hI1 := hI.alloc (.loop (lpRec a fn ps assign body w.heap.size .ready none)) (hI.alloc (.deferred (some [])) h0)
  have hb1 : Below w0.heap.size w0 ((w.alloc (.deferred (some []))).alloc (.loop (lpRec a fn ps assign body w.heap.size .ready none))) := hb0.trans ((((Below.refl _ w).alloc (Nat.le_refl _) _).alloc (by simp) _).mono hb0.size)
  have hs1 : ((w.alloc (.deferred (some []))).alloc (.loop (lpRec a fn ps assign body w.heap.size .ready none))).heap.size = w.heap.size + 1 + 1 := by simp
  refine ⟨w.heap.size + 1, [{ target := .collected w.heap.size, args := #[] }], (w.alloc (.deferred (some []))).alloc (.loop (lpRec a fn ps assign body w.heap.size .ready none)), { target := .fn (.func gf) lb, args := #[.func (.yield (w.heap.size + 1)) #[] #[]] }, (w.alloc (.deferred (some []))).alloc (.loop (lpRec a fn ps assign body w.heap.size .ready none)), gf,
    #[.func (.yield (w.heap.size + 1)) #[] #[]] ++ lb, (w.alloc (.deferred (some []))).alloc (.loop (lpRec a fn ps assign body w.heap.size .ready none)), hrun, ?_, ?_, ?_, fun _ => h1, ?_⟩
  · simp only [resolve, hg]
    simp [go_sem]
  · intro f' hf'
    simp [Target.leads] at hf'
    subst hf'
    exact hFg
  · simp [invoke, go_sem, eg]
  generalize (w.alloc (.deferred (some []))).alloc (.loop (lpRec a fn ps assign body w.heap.size .ready none)) = W1 at L1 hI1 hb1 hs1 ⊢
  have far : ∀ {A : World} {row : Option Nat}, (∀ r, row = some r → W1.heap.size ≤ r ∧ ∃ o : Obj, A.heap[r]? = some o ∧ o.isWalk = true) → ∀ r, row = some r → w.heap.size ≤ r ∧ ∃ o : Obj, A.heap[r]? = some o ∧ o.isCells = false := fun hr r e => by
    obtain ⟨hB, o, ho, hw⟩ := hr r e
    exact ⟨by omega, o, ho, Obj.not_cells_of_walk hw⟩
  refine (hseq (w.heap.size + 1) (fun pre W => (I pre W ∧ w.heap.size ≤ W.heap.size) ∧ LpAt w.heap.size (lpRec a fn ps assign body w.heap.size .ready none) W)
    (fun pre W => ∃ c, Ix c pre W ∧ LpAt w.heap.size (lpRec a fn ps assign body w.heap.size .done (some c)) W) W1 hb1
    (fun s A B row hs hgr hr => ⟨⟨hI s A B row hs.1.1 hgr (far hr), Nat.le_trans hs.1.2 hgr.size⟩, hs.2.walk hgr fun k e => (hr k e).2⟩)
    (fun s A B row hs hgr hr => by
      obtain ⟨c, hc, hl⟩ := hs
      exact ⟨c, hIx c s A B row hc hgr (far hr), hl.walk hgr fun k e => (hr k e).2⟩)
    (fun pre X Y hs hst => ⟨⟨hIS hs.1.1 hst, Nat.le_trans hs.1.2 (hSO hst).size⟩, hs.2.others (hSO hst)⟩) ?_ ⟨⟨hI1, by omega⟩, L1⟩).mono ?_
  · rintro pre x W ⟨⟨hi, hsz⟩, hl⟩ hlen
    have hy := run_yield (P := P) (args := encs x) hl.1 (hps x)
    refine ⟨fn, _, assign, body, hy, roundIn_of_wpIn hfn (hassign _ pre x W _ hi hsz fun a₁ W₁ hi2 hko hkp => ?_)⟩
    have hl1 := hl.others hko
    refine ⟨_, run_beginRound hl1.1 rfl, ?_⟩
    have hl2 := hl1.put (lpRec a fn ps assign body w.heap.size .busy none)
    have hw2 : Kp W₁ (W₁.putObj (w.heap.size + 1) (.loop (lpRec a fn ps assign body w.heap.size .busy none))) := hKb _ _ _ _ (by omega) hl1.1 rfl rfl
    have hi3 := hI2.putObj (.loop (lpRec a fn ps assign body w.heap.size .busy none)) hi2 (by omega) hl1.1 rfl
    refine wpIn_mono (hbody _ pre x a₁ _ hi3 hlen) ?_
    have fin : ∀ (j : Option Code) (W3 : World), KeepsOthers (W₁.putObj (w.heap.size + 1) (.loop (lpRec a fn ps assign body w.heap.size .busy none))) W3 →
        (Instr.endRound (w.heap.size + 1) j).run P W3 = .ok (.bool j.isNone) (W3.putObj (w.heap.size + 1) (.loop (lpRec a fn ps assign body w.heap.size (if j.isNone then .ready else .done) j))) ∧ LpAt w.heap.size (lpRec a fn ps assign body w.heap.size .busy none) W3 := fun j W3 hk3 => by
      have h3 := hl2.others hk3
      exact ⟨run_endRound (P := P) j h3.1, h3⟩
    rintro e a3 W3 hp
    cases e with
    | normal =>
      obtain ⟨hk3, hkp3, hi4⟩ := hp
      obtain ⟨hr, h3⟩ := fin none W3 hk3
      have := hk3.size
      have hs3 : W₁.heap.size ≤ W3.heap.size := by simpa using hk3.size
      refine ⟨_, _, hr, .inl ⟨rfl, ⟨⟨hI.putObj _ hi4 (by omega) h3.1 rfl, by have := hko.size; simp; omega⟩, h3.put _⟩, hKt hkp (hKt (hKt hw2 hkp3) (hKb _ _ _ _ (by omega) h3.1 rfl rfl))⟩⟩
    | ret =>
      obtain ⟨hr, h3⟩ := fin (some .ret) W3 hp.1
      exact ⟨_, _, hr, .inr ⟨rfl, .ret, (hIx _).putObj _ hp.2 (by omega) h3.1 rfl, h3.put _⟩⟩
    | exit id =>
      obtain ⟨hr, h3⟩ := fin (some (.exit id)) W3 hp.1
      exact ⟨_, _, hr, .inr ⟨rfl, .exit id, (hIx _).putObj _ hp.2 (by omega) h3.1 rfl, h3.put _⟩⟩
    | goto t =>
      obtain ⟨hr, h3⟩ := fin (some (.goto t)) W3 hp.1
      exact ⟨_, _, hr, .inr ⟨rfl, .goto t, (hIx _).putObj _ hp.2 (by omega) h3.1 rfl, h3.put _⟩⟩
    | panic ch => exact hp.elim
    | outgrown => exact hp.elim
  · rintro e W2 ⟨⟨v, rfl⟩, (⟨xs, hS, ⟨hi, _⟩, hl⟩ | ⟨pre, hSp, c, hi, hl⟩)⟩
    · exact ⟨none, _, run_endLoop (P := P) hl.1 (by simp [lpRec]), hdone _ xs _ (Nat.le_refl _) hS (hI.putObj _ hi (by omega) hl.1 rfl) ((World.putObj_heap_other (by omega)).trans hl.2)⟩
    · exact ⟨some c, _, run_endLoop (P := P) hl.1 (by simp [lpRec]), hstop _ c pre _ (Nat.le_refl _) hSp ((hIx c).putObj _ hi (by omega) hl.1 rfl) ((World.putObj_heap_other (by omega)).trans hl.2)⟩
end Go.Proofs.YtkckgchohnkkpaaGreatDoor
