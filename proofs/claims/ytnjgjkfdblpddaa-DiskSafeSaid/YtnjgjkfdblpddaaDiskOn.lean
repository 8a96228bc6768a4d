/- A disk whose power stays on: what writes and flushes make of it, as plain functions; two writes of which one is torn. No condition beyond those that each lemma states. -/
import Derived.Test.YtnjgjkfdblpddaaDiskAwake
namespace Go.Proofs.Ytnjgjkfdblpddaa
open Go.RowKit Go.Deep

/-- A disk whose power stays on. -/
def onD (S : List (Option (List Nat))) (C : List (Nat × List Nat)) (k : Nat) : DiskD := ⟨S, C, -1, false, k⟩
theorem on_act (S : List (Option (List Nat))) (C : List (Nat × List Nat)) (k : Nat) : (onD S C k).act = (onD S C (k + 1), 0) := by
  rw [DiskD.act, if_neg (by simp [onD])]
  rfl
theorem on_write {S : List (Option (List Nat))} {C : List (Nat × List Nat)} {k q : Nat} {l : List Nat} (hq : q < S.length) (hl : l.length = 64) : (onD S C k).write (q : Int) l = (onD S (C ++ [(q, l)]) (k + 1), 0) := by
  have h : ¬((q : Int) < 0 ∨ ((onD S C k).safe.length : Int) ≤ (q : Int) ∨ l.length ≠ 64) := by
    show ¬((q : Int) < 0 ∨ (S.length : Int) ≤ (q : Int) ∨ l.length ≠ 64)
    omega
  rw [DiskD.write, on_act, if_neg (show ¬(0 : Nat) ≠ 0 by omega), if_neg h]
  rfl
theorem on_flush (S : List (Option (List Nat))) (C : List (Nat × List Nat)) (k : Nat) : (onD S C k).flush = (onD (fold C S) [] (k + 1), 0) := by
  rw [DiskD.flush, on_act, if_neg (show ¬(0 : Nat) ≠ 0 by omega)]
  rfl
theorem new_on (n : Nat) : DiskD.new n = onD (List.replicate n none) [] 0 := rfl

section
variable (s0 s1 ba bb : List Nat) (wh a : Int)
theorem torn_kept : keptN (pk [3, wh, a] 0) [(0, ba), (1, bb)] 2 = [(0, ba), (1, bb)] := by
  rw [keptN_yes (show bitAt (pk [3, wh, a] 0) 1 = true from (show bitAt 3 1 = true by decide)) (by simp), keptN_yes (show bitAt (pk [3, wh, a] 0) 0 = true from (show bitAt 3 0 = true by decide)) (by simp), keptN_zero]
  rfl
variable (hw : 1 ≤ wh)
include hw
theorem torn_at : tornAt [3, wh, a] 2 = wh % 2 := by
  have h : pk [3, wh, a] 1 = wh := rfl
  rw [tornAt, h, if_pos ⟨by omega, by omega⟩, rnd_cast wh (by omega)]
  rfl
theorem torn_safe : (DiskD.crash (onD [some s0, some s1, none, none] [(0, ba), (1, bb)] 5) [3, wh, a]) =
    onD [some (if (0 : Int) = wh % 2 then ba.take (rnd a 65) ++ s0.drop (rnd a 65) else ba), some (if (1 : Int) = wh % 2 then bb.take (rnd a 65) ++ s1.drop (rnd a 65) else bb), none, none] [] 0 := by
  have h2 : pk [3, wh, a] 2 = a := rfl
  have hk : keptN (pk [3, wh, a] 0) [(0, ba), (1, bb)] [(0, ba), (1, bb)].length = [(0, ba), (1, bb)] := torn_kept ba bb wh a
  show DiskD.mk (laidN (tornAt _ (keptN (pk [3, wh, a] 0) [(0, ba), (1, bb)] [(0, ba), (1, bb)].length).length) (rnd (pk [3, wh, a] 2) 65) (keptN (pk [3, wh, a] 0) [(0, ba), (1, bb)] [(0, ba), (1, bb)].length) [some s0, some s1, none, none] (keptN (pk [3, wh, a] 0) [(0, ba), (1, bb)] [(0, ba), (1, bb)].length).length) [] (-1) false 0 = _
  rw [hk, h2]
  show DiskD.mk (laidN (tornAt _ 2) (rnd a 65) [(0, ba), (1, bb)] [some s0, some s1, none, none] 2) [] (-1) false 0 = _
  rw [torn_at wh a hw, laidN_next (by simp), laidN_next (by simp), laidN_zero]
  rfl
end
/-- The landed disk alone, above base. -/
def Alone (base g : Nat) (D : DiskD) (w : World) : Prop := ∃ O : Nat → Prop, LandAt O g D w ∧ ∀ x, O x → base ≤ x
theorem Alone.below {base g : Nat} {D : DiskD} {w w' : World} (h : Alone base g D w) (hb : Below w.heap.size w w') : Alone base g D w' := by
  obtain ⟨O, h1, h2⟩ := h
  exact ⟨O, h1.below hb, h2⟩
theorem Alone.lt {base g : Nat} {D : DiskD} {w : World} (h : Alone base g D w) : base ≤ g ∧ g < w.heap.size := by
  obtain ⟨O, h1, h2⟩ := h
  exact ⟨h2 g h1.1, h1.lt⟩
theorem alone_end {base g : Nat} {D : DiskD} {w w' : World} {O : Nat → Prop} (h2 : ∀ x, O x → base ≤ x) (hw : base ≤ w.heap.size) (he : LandEnd O g D w w') : Alone base g D w' ∧ Below base w w' := by
  obtain ⟨O', hO, hl, ho⟩ := he
  refine ⟨⟨O', hl, fun x hx => (hO x hx).elim (h2 x) (by omega)⟩, ⟨ho.os, ho.tape, ho.output, ho.size, fun k hk => ho.block k (by omega) fun hk2 => ?_⟩⟩
  have := h2 k hk2
  omega
theorem alone_write {base g : Nat} {D : DiskD} {w : World} (h : Alone base g D w) (hops : D.ops ≤ 1099511627776) (hc : D.cache.length ≤ 1048576) (at_ : Int) (b : Nat) (l : List Nat) (c : Nat) (hat : BytesAt w (some ⟨b, 0, none⟩) l) (hb : b ≠ g) :
    Calls Try.prog 16 #[.pointer (some ⟨g, 0, none⟩), .int .i64 at_, .slice (some ⟨b, 0, none⟩) l.length c] w fun e w' => e = .returned (.int .i64 ((D.write at_ l).2 : Nat)) ∧ Alone base g (D.write at_ l).1 w' ∧ Below base w w' := by
  have hlt := h.lt
  obtain ⟨O, h1, h2⟩ := h
  refine (landWrite_any O g D hops hc at_ (some ⟨b, 0, none⟩) l c w hat (fun x hx => by injection hx with hx; subst hx; exact hb) h1).mono ?_
  rintro e w' ⟨rfl, he⟩
  exact ⟨rfl, alone_end h2 (by omega) he⟩
theorem alone_sec {base g : Nat} {D : DiskD} {w : World} (h : Alone base g D w) (hops : D.ops ≤ 1099511627776) (hc : D.cache.length ≤ 1048576) (at_ : Int) (b : Nat) (l : List Nat) (c : Nat) (hat : BytesAt w (some ⟨b, 0, none⟩) l) (hb : b ≠ g) (hl : l.length = 64) :
    Calls Try.prog 16 #[.pointer (some ⟨g, 0, none⟩), .int .i64 at_, .slice (some ⟨b, 0, none⟩) 64 c] w fun e w' => e = .returned (.int .i64 ((D.write at_ l).2 : Nat)) ∧ Alone base g (D.write at_ l).1 w' ∧ Below base w w' := by
  have := alone_write h hops hc at_ b l c hat hb
  rwa [hl] at this
theorem alone_flush {base g : Nat} {D : DiskD} {w : World} (h : Alone base g D w) (hops : D.ops ≤ 1099511627776) (hc : D.cache.length ≤ 1048576) (hfit : D.Fit) :
    Calls Try.prog 18 #[.pointer (some ⟨g, 0, none⟩)] w fun e w' => e = .returned (.int .i64 (D.flush.2 : Nat)) ∧ Alone base g D.flush.1 w' ∧ Below base w w' := by
  have hlt := h.lt
  obtain ⟨O, h1, h2⟩ := h
  refine (landFlush_any O g D hops hc hfit w h1).mono ?_
  rintro e w' ⟨rfl, hl, ho⟩
  exact ⟨rfl, alone_end h2 (by omega) ⟨O, fun _ h => .inl h, hl, ho⟩⟩
theorem alone_cut {base g : Nat} {D : DiskD} {w : World} (h : Alone base g D w) (n : Int) (hn : n ≤ 9223372036854775807) :
    Calls Try.prog 21 #[.pointer (some ⟨g, 0, none⟩), .int .i64 n] w fun e w' => e = .returned (.tuple #[]) ∧ Alone base g (D.cut n) w' ∧ Below base w w' := by
  have hlt := h.lt
  obtain ⟨O, h1, h2⟩ := h
  refine (landCut_any O g D n hn w h1).mono ?_
  rintro e w' ⟨rfl, hl, ho⟩
  exact ⟨rfl, alone_end h2 (by omega) (.of_only hl ho)⟩
theorem alone_crash {base g : Nat} {D : DiskD} {w : World} (h : Alone base g D w) (hc : D.cache.length ≤ 1048576) (hfit : D.Fit) (A : Option Addr) (l : List Int) (c : Nat) (hat : IntsAt w A l) :
    Calls Try.prog 13 #[.pointer (some ⟨g, 0, none⟩), .slice A l.length c] w fun e w' => ∃ g', e = .returned (.pointer (some ⟨g', 0, none⟩)) ∧ Alone base g' (D.crash l) w' ∧ Alone base g D w' ∧ Below w.heap.size w w' ∧ w.heap.size ≤ g' := by
  have hlt := h.lt
  obtain ⟨O, h1, h2⟩ := h
  refine (landCrash_any O g D hc hfit A l c w hat h1).mono ?_
  rintro e w' ⟨g', rfl, hl, hg, hb⟩
  exact ⟨g', rfl, ⟨_, hl, fun x hx => by omega⟩, ⟨O, h1.below hb, h2⟩, hb, hg⟩
theorem alone_read {base g : Nat} {D : DiskD} {w : World} (h : Alone base g D w) (at_ : Int) : Calls Try.prog 19 #[.pointer (some ⟨g, 0, none⟩), .int .i64 at_] w (ReadEnd D at_ w) := by
  obtain ⟨O, h1, h2⟩ := h
  exact landRead_any O g D at_ w h1
theorem alone_cached {base g : Nat} {D : DiskD} {w : World} (h : Alone base g D w) : Calls Try.prog 20 #[.pointer (some ⟨g, 0, none⟩)] w fun e w' => e = .returned (.int .i64 (D.cache.length : Int)) ∧ w = w' := by
  obtain ⟨O, h1, h2⟩ := h
  exact landCached_any O g D w h1
theorem alone_ops {base g : Nat} {D : DiskD} {w : World} (h : Alone base g D w) : Calls Try.prog 22 #[.pointer (some ⟨g, 0, none⟩)] w fun e w' => e = .returned (.int .i64 (D.ops : Int)) ∧ w = w' := by
  obtain ⟨O, h1, h2⟩ := h
  exact landOps_any O g D w h1
/-- A new one. -/
theorem alone_new {n : Nat} (h1 : 1 ≤ n) (h2 : n ≤ 65536) (w : World) : Calls Try.prog 9 #[.int .i64 (n : Int)] w fun e w' => ∃ g, e = .returned (.tuple #[.pointer (some ⟨g, 0, none⟩), .int .i64 0]) ∧ Alone w.heap.size g (onD (List.replicate n none) [] 0) w' ∧ Below w.heap.size w w' := by
  refine (landNew_any n w).mono ?_
  rintro e w' (⟨h, _⟩ | ⟨k, g, hk, _, _, rfl, hl, hg, hb⟩)
  · omega
  · obtain rfl : k = n := by omega
    exact ⟨g, rfl, ⟨_, hl, fun x hx => hx.1⟩, hb⟩
end Go.Proofs.Ytnjgjkfdblpddaa
