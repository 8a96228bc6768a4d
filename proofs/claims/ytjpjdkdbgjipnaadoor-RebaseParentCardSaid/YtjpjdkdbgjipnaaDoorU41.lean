/- The table of conflicts, row by row: what becomes of each of four acts behind each of four: pure. No condition. (Merged of 4 texts.) -/
import Derived.Test.YtjpjdkdbgjipnaaDoorU30
import Derived.Test.YtjpjdkdbgjipnaaDoorU14
import Derived.Test.YtjpjdkdbgjipnaaDoorU32
import Derived.Test.YtjpjdkdbgjipnaaDoorU15
import Derived.Test.YtjpjdkdbgjipnaaDoorU5
import Derived.Test.YtjpjdkdbgjipnaaDoorU0
namespace Go.Proofs.YtjpjdkdbgjipnaaDoor
theorem yy738 {s : List Nat} (hv : ∃ vs, V s vs) (hl : s.length ≤ 8000) (hc : (cps s).length ≤ 2000) : TreeM (yy24 s) where
 len := by simp [yy24]
 srt := List.pairwise_singleton _ _
 nd := fun x hx => by
  rw [List.mem_singleton.1 hx]
  exact ⟨by show (1 : Int) ≤ 1; omega, by show (1 : Int) ≤ 1099511627776; omega, by show IsName [102]; decide, fun h => (by cases h), hl, hv, hc⟩
 uniq := fun x hx y hy _ _ => by rw [List.mem_singleton.1 hx, List.mem_singleton.1 hy]
 tot := by
  unfold rTotal yy24
  simp
  omega
 dirs := fun x hx => .inl (by rw [List.mem_singleton.1 hx])
 ends := fun x hx => by
  rw [List.mem_singleton.1 hx]
  refine ⟨1, fun p hp => ?_⟩
  have hf : rFind (yy24 s) 1 = some 0 := yy240 (by simp [yy24]) rfl fun j hj hj0 => by omega
  rw [yy135 (by simp [yy24]) hf] at hp
  injection hp with hp
  show up (yy24 s) p = none
  refine yy319 (yy345 fun y hy => ?_)
  rw [List.mem_singleton.1 hy, ← hp]
  show (1 : Int) ≠ 0
  decide
theorem yy364 {s : List Nat} {A : Option Go.Addr} {c : Nat} {a : List CompV} (h : dErr s a ≠ 0) : (doAllV (yy24 s) [edE 1 A c a]).2.2 ≠ 0 := by
 rw [do_edE]
 by_cases g : rCheck a = 0
 ·rw [if_neg (fun q => q g), if_pos h]
  show ((dErr s a : Nat) : Int) ≠ 0
  omega
 ·rw [if_pos g]
  show ((rCheck a : Nat) : Int) ≠ 0
  omega
theorem yy68 {s : List Nat} {A : Option Go.Addr} {c : Nat} {a : List CompV} (h : dErr s a = 0) : doAllV (yy24 s) [edE 1 A c a] = (yy24 (dTxt s a), 1, 0) := by
 have g := (yy156 h).1
 rw [do_edE, if_neg (fun q => q g), if_neg (fun q => q h)]
theorem yy892 {a b : ActV} (l : List NodeV) (h : aKey a = aKey b) : rDo l a = rDo l b := by
 obtain ⟨h1, h2, h3, h4, h5, h6⟩ := yy497.1 h
 obtain ⟨ak, ai, ap, an, ad, aA, aC, ao⟩ := a
 obtain ⟨bk, bi, bp, bn, bd, bA, bC, bo⟩ := b
 simp only at h1 h2 h3 h4 h5 h6
 subst h1 h2 h3 h4 h5 h6
 unfold rDo yy96
 rfl
theorem yy769 : ∀ {l m : List ActV} {T : List NodeV} {i : Nat}, l.map aKey = m.map aKey → doR T l i = doR T m i
 | [], [], _, _, _ => rfl
 | [], _ :: _, _, _, h => by cases h
 | _ :: _, [], _, _, h => by cases h
 | a :: l, b :: m, T, i, h => by
  rw [List.map_cons, List.map_cons] at h
  injection h with h1 h2
  rw [doR, doR, yy892 T h1, yy769 h2]
theorem yy411 {l m : List ActV} (T : List NodeV) (h : l.map aKey = m.map aKey) : doAllV T l = doAllV T m := by
 unfold doAllV
 rw [yy351 h, yy769 h]
theorem yy839 {P : List CompV} (h : Ch 0 P) : rCheck P = 0 ∨ rCheck P = 3 := by
 unfold rCheck
 rw [yy168 h.nrm]
 split
 ·exact .inr rfl
 ·split
  ·rename_i g; cases g
  ·split
   ·exact .inr rfl
   ·exact .inl rfl
structure DidE (s : List Nat) (a : List CompV) (vs : List Nat) : Prop where
 ok : Ok a
 text : V s vs
 base : inS a = vs.length
 out : V (dTxt s a) (ed a vs)
 len : (ed a vs).length = outS a
 dt : dTxt s a = E (ed a vs)
theorem did_of {s : List Nat} {a : List CompV} (h : dErr s a = 0) : ∃ vs, DidE s a vs := by
 obtain ⟨h1, vs, hv, hn⟩ := yy156 h
 have ok := ok_of h1
 have hb := ok.base
 have e := yy382 h1 hv hn
 refine ⟨vs, ok, hv, by omega, ?_, yy147 a vs ok.wh (by omega), e⟩
 rw [e]
 exact V.mk (ed_may a vs ok.wh hv.may)
theorem yy840 {s : List Nat} {a b : List CompV} {vs : List Nat} (ha : DidE s a vs) (hb : Ok b) (hi : inS b = vs.length) : ∃ P Q, rOver false b a = (P, 0) ∧ rOver true a b = (Q, 0) ∧ (rCheck P = 0 ∨ rCheck P = 3) ∧ inS P = outS a ∧ (rCheck P = 0 → dErr (dTxt s a) P = 0) ∧
  (DidE s b vs → rCheck P = 0 → dErr (dTxt s b) Q = 0 → dTxt (dTxt s b) Q = dTxt (dTxt s a) P) := by
 obtain ⟨P, hP⟩ := yy619 false hb ha.ok (by rw [hi, ha.base])
 obtain ⟨Q, hQ⟩ := yy619 true ha.ok hb (by rw [hi, ha.base])
 have hd : rCheck P = 0 → dErr (dTxt s a) P = 0 := fun hc => yy606 hc ha.out (by rw [ha.len, (ok_of hc).base, hP.ins])
 refine ⟨P, Q, hP.over, hQ.over, yy839 hP.ch, hP.ins, hd, fun hbd hc hq => ?_⟩
 have hm := hQ.meets hP ha.ok hb (by rw [hi, ha.base]) vs (by rw [ha.base])
 have h1 := (yy156 hq).1
 have e1 := yy382 h1 hbd.out (by rw [hbd.len, (ok_of h1).base, hQ.ins])
 have e2 := yy382 hc ha.out (by rw [ha.len, (ok_of hc).base, hP.ins])
 rw [e1, e2, hm]
theorem yy841 {s vs : List Nat} (h : DidE s [] vs) : s = [] ∧ dTxt s [] = [] ∧ vs = [] := by
 have h1 := h.base
 rw [yy86] at h1
 have h2 : vs = [] := List.length_eq_zero_iff.1 h1.symm
 subst h2
 have h3 : s = [] := by rw [← h.text.bytes]; exact E_nil
 have h4 := h.dt
 have h5 := h.len
 rw [yy414] at h5
 rw [List.length_eq_zero_iff.1 h5, E_nil] at h4
 exact ⟨h3, h4, rfl⟩
end Go.Proofs.YtjpjdkdbgjipnaaDoor
namespace Go.Proofs.YtjpjdkdbgjipnaaDoor
open Go.RowKit Go.Deep
theorem yy299 {A : Option Addr} {l : List CompV} (limit : Nat) (cap : Nat) (hl : l.length ≤ maxLen) (hg : ∀ y ∈ l, y.Good) (w : World) (h : CompsC w A cap l) :
  Calls Tryd.prog 19 #[.slice A l.length cap, .int .i64 (limit : Int)] w fun e w' => e = .returned (.int .i64 (yy30 limit l : Int)) ∧ Below w.heap.size w w' := yy223 limit cap hl hg w h.1
end Go.Proofs.YtjpjdkdbgjipnaaDoor
namespace Go.Proofs.YtjpjdkdbgjipnaaDoor
theorem yy742 (l : List ActV) (i : Int) : getK0 (eff l) i = effOne l i ∨ (getK0 (eff l) i = oneZ 0 ∧ ∀ a ∈ l, a.id ≠ i) := by
 unfold getK0
 cases h : (eff l).find? fun k => decide (k.id = i) with
 | none =>
  right
  refine ⟨rfl, fun a ha e => ?_⟩
  have hm : effOne l i ∈ eff l := List.mem_map.2 ⟨i, yy88.2 ⟨a, ha, e⟩, rfl⟩
  have := List.find?_eq_none.1 h _ hm
  rw [yy154] at this
  simp at this
 | some k =>
  left
  have h1 := List.find?_some h
  have h2 := List.mem_of_find?_eq_some h
  obtain ⟨j, hj, rfl⟩ := List.mem_map.1 h2
  rw [yy154] at h1
  have e : j = i := by simpa using h1
  rw [e]
  rfl
theorem yy468 {l : List ActV} {i : Int} (h : ∀ a ∈ l, a.id ≠ i) (k : Int) : hasA l i k = false := by
 unfold hasA
 rw [List.any_eq_false]
 intro a ha
 simp [h a ha]
theorem yy222 (l : List ActV) (i : Int) : (getK0 (eff l) i).created = hasA l i 1 ∧ (getK0 (eff l) i).removed = hasA l i 2 ∧ (getK0 (eff l) i).moved = hasA l i 3 := by
 rcases yy742 l i with h | ⟨h, ho⟩
 ·rw [h]
  have := yy691 l i
  exact ⟨this.1, this.2.1, this.2.2.1⟩
 ·rw [h, yy468 ho, yy468 ho, yy468 ho]
  exact ⟨rfl, rfl, rfl⟩
def rmQ (z : Int) : Int := 1 + (rnd z 100 : Nat)
def rmP (gs : List Int) : List ActV := gs.map fun z => rmE (rmQ z)
theorem rmQ_in (z : Int) : 1 ≤ rmQ z ∧ rmQ z ≤ 100 := by
 have := rnd_lt z (n := 100) (by omega)
 unfold rmQ
 omega
theorem yy203 (gs : List Int) : (rmP gs).length = gs.length := by simp [rmP]
theorem yy666 (gs : List Int) (z : Int) : rmP (gs ++ [z]) = rmP gs ++ [rmE (rmQ z)] := by simp [rmP]
theorem yy515 {gs : List Int} {a : ActV} (h : a ∈ rmP gs) : ∃ z, a = rmE (rmQ z) := by
 obtain ⟨z, _, rfl⟩ := List.mem_map.1 h
 exact ⟨z, rfl⟩
def hitP (gs : List Int) (p : Int) : Bool := gs.any fun z => decide (rmQ z = p)
theorem yy250 (gs : List Int) (z p : Int) : hitP (gs ++ [z]) p = (hitP gs p || decide (rmQ z = p)) := by simp [hitP]
theorem yy770 (gs : List Int) (i k : Int) : hasA (rmP gs) i k = (hitP gs i && decide (k = 2)) := by
 unfold hasA rmP hitP
 rw [List.any_map]
 induction gs with
 | nil => rfl
 | cons z gs ih =>
  rw [List.any_cons, List.any_cons, ih]
  show (decide (rmQ z = i) && decide ((2 : Int) = k) || _) = _
  by_cases h1 : rmQ z = i <;> by_cases h2 : k = 2 <;> simp [h1, h2, eq_comm]
def parA (id parent : Int) (mv : Bool) : ActV := ⟨if mv then 3 else 1, id, parent, [110], false, none, 0, []⟩
theorem yy771 {id parent : Int} (mv : Bool) (h1 : 1 ≤ id ∧ id ≤ 100) (h2 : 1 ≤ parent ∧ parent ≤ 100) : rChk [parA id parent mv] = 0 := by
 refine chk_plain ?_ ?_ (by show 1 ≤ id ∧ id ≤ _; omega) (by show 0 ≤ parent ∧ parent ≤ _; omega) (.inr (by show rName [110] = true; decide))
 ·cases mv <;> simp [parA]
 ·cases mv
  ·show _ = aKey (aPlain (parA id parent false)); unfold aPlain; simp [parA, aKey]
  ·show _ = aKey (aPlain (parA id parent true)); unfold aPlain; simp [parA, aKey]
theorem yy204 (id parent : Int) (mv : Bool) (gs : List Int) : rWhy (parA id parent mv) (eff (rmP gs)) = if (hitP gs parent || (mv && hitP gs id)) = true then 12 else 0 := by
 obtain ⟨a1, a2, a3⟩ := yy222 (rmP gs) id
 obtain ⟨b1, b2, b3⟩ := yy222 (rmP gs) parent
 rw [yy770] at a1 a2 a3 b1 b2 b3
 simp only [show ¬ ((1 : Int) = 2) by omega, show ¬ ((3 : Int) = 2) by omega, decide_true, decide_false, xb1, xb3] at a1 a2 a3 b1 b2 b3
 cases mv
 ·simp only [rWhy, show (parA id parent false).kind = 1 from rfl, show (parA id parent false).id = id from rfl, show (parA id parent false).parent = parent from rfl, a1, b2]
  cases hitP gs id <;> cases hitP gs parent <;> simp
 ·simp only [rWhy, show (parA id parent true).kind = 3 from rfl, show (parA id parent true).id = id from rfl, show (parA id parent true).parent = parent from rfl, a2, a3, b2]
  cases hitP gs id <;> cases hitP gs parent <;> simp
theorem yy842 (id parent : Int) (mv : Bool) (gs : List Int) : rbLeft (parA id parent mv) (eff (rmP gs)) = false ∧ ¬ rbEdit (parA id parent mv) (eff (rmP gs)) := by
 obtain ⟨_, _, a3⟩ := yy222 (rmP gs) id
 rw [yy770] at a3
 refine ⟨?_, fun h => ?_⟩
 ·unfold rbLeft
  show (decide ((parA id parent mv).kind = 2) && _ || decide ((parA id parent mv).kind = 3) && (getK0 (eff (rmP gs)) id).moved) = false
  rw [a3]
  cases mv <;> simp [parA]
 ·have := h.1
  cases mv <;> simp [parA] at this
theorem par_rb {id parent : Int} (mv : Bool) (gs : List Int) (h1 : 1 ≤ id ∧ id ≤ 100) (h2 : 1 ≤ parent ∧ parent ≤ 100) :
  rRb [parA id parent mv] (eff (rmP gs)) = if (hitP gs parent || (mv && hitP gs id)) = true then ([], 12) else ([parA id parent mv], 0) := by
 have hw := yy204 id parent mv gs
 obtain ⟨r1, r2⟩ := yy842 id parent mv gs
 by_cases h : (hitP gs parent || (mv && hitP gs id)) = true
 ·rw [if_pos h] at hw ⊢
  rw [yy220 (yy771 mv h1 h2) (by rw [hw]; decide), hw]
 ·rw [if_neg h] at hw ⊢
  exact yy295 (yy771 mv h1 h2) hw r1 r2
def mvB : ActV := ⟨3, 1, 2, [98], false, none, 0, []⟩
def crB : ActV := ⟨1, 1, 2, [98], false, none, 0, []⟩
def tabA (g : Nat) (i : Nat) : ActV := match i with
 | 0 => edE 1 (some ⟨g, 0, none⟩) 1 insX
 | 1 => rmE 1
 | 2 => mvB
 | _ => crB
def tabB (g : Nat) (k : Nat) (same : Bool) : ActV := match k, same with
 | 2, false => { mvB with name := [99] }
 | 3, false => { crB with name := [99] }
 | k, _ => tabA g k
def wantT (i k : Nat) (same : Bool) : Int := match i, k, same with
 | 0, 1, _ => 13
 | 1, 0, _ => 12
 | 1, 1, _ => 1
 | 1, 2, _ => 12
 | 2, 1, _ => 13
 | 2, 2, false => 13
 | 2, 2, true => 1
 | 3, 3, _ => 13
 | _, _, _ => 0
theorem yy44 {i : Nat} (h : i < 4) : i = 0 ∨ i = 1 ∨ i = 2 ∨ i = 3 := by omega
theorem yy895 (g : Nat) {k : Nat} (hk : k < 4) (same : Bool) : rChk [tabB g k same] = 0 := by
 have he : rChk [edE 1 (some ⟨g, 0, none⟩) 1 insX] = 0 := by rw [yy163 (by omega) (by omega), yy296.1]; rfl
 have hp : ∀ (x : ActV), (x.kind = 1 ∨ x.kind = 3) → x.id = 1 → x.parent = 2 → x.dir = false → x.ops = [] → rName x.name = true → rChk [x] = 0 := fun x h1 h2 h3 h4 h5 h6 => by
  refine chk_plain (by omega) ?_ (by omega) (by omega) (.inr h6)
  unfold aPlain
  rcases h1 with h | h <;> simp [h, aKey, h4, h5]
 rcases yy44 hk with rfl | rfl | rfl | rfl <;> cases same
 ·exact he
 ·exact he
 ·exact yy661 (by omega)
 ·exact yy661 (by omega)
 all_goals exact hp _ (by first | exact .inl rfl | exact .inr rfl) rfl rfl rfl rfl (by first | exact (by decide : rName [98] = true) | exact (by decide : rName [99] = true))
def TabR (w : Int) (bk : Int) (R : List ActV × Int) : Prop := (w = 0 ∧ ∃ y, R = ([y], 0) ∧ y.kind = bk) ∨ (w = 1 ∧ R = ([], 0)) ∨ (w ≠ 0 ∧ w ≠ 1 ∧ R = ([], w))
theorem yy772 {x : ActV} {ks : List OneK} (n bk : Int) (hc : rChk [x] = 0) (h : rWhy x ks = n) (h0 : n ≠ 0) (h1 : n ≠ 1) : TabR n bk (rRb [x] ks) :=
 .inr (.inr ⟨h0, h1, by rw [yy220 hc (by rw [h]; exact h0), h]⟩)
theorem yy843 {x : ActV} {ks : List OneK} (bk : Int) (hc : rChk [x] = 0) (h : rWhy x ks = 0) (hl : rbLeft x ks = true) : TabR 1 bk (rRb [x] ks) :=
 .inr (.inl ⟨rfl, yy294 hc h hl⟩)
theorem yy469 {x : ActV} {ks : List OneK} (hc : rChk [x] = 0) (h : rWhy x ks = 0) (hl : rbLeft x ks = false) (he : x.kind ≠ 4 ∨ (getK0 ks x.id).edited = false) : TabR 0 x.kind (rRb [x] ks) :=
 .inl ⟨rfl, x, yy295 hc h hl (fun g => by
  rcases he with he | he
  ·exact he g.1
  ·have := g.2.1; rw [he] at this; cases this), rfl⟩
theorem yy743 (g : Nat) {i k : Nat} (hi : i < 4) (hk : k < 4) (same : Bool) : TabR (wantT i k same) (tabB g k same).kind (rRb [tabB g k same] (eff [tabA g i])) := by
 have hc := yy895 g hk same
 rcases yy44 hi with rfl | rfl | rfl | rfl <;> rcases yy44 hk with rfl | rfl | rfl | rfl <;> cases same
 ·exact .inl ⟨rfl, edE 1 (some ⟨g, 0, none⟩) 1 insX2, yy177 hc rfl rfl ⟨rfl, rfl, by show insX ≠ []; simp [insX]⟩ yy359 (by
   show rChk [edE 1 (some ⟨g, 0, none⟩) 1 insX2] = 0
   rw [yy163 (by omega) (by omega), yy465]; rfl), rfl⟩
 ·exact .inl ⟨rfl, edE 1 (some ⟨g, 0, none⟩) 1 insX2, yy177 hc rfl rfl ⟨rfl, rfl, by show insX ≠ []; simp [insX]⟩ yy359 (by
   show rChk [edE 1 (some ⟨g, 0, none⟩) 1 insX2] = 0
   rw [yy163 (by omega) (by omega), yy465]; rfl), rfl⟩
 all_goals first
  | exact yy772 13 _ hc rfl (by omega) (by omega)
  | exact yy772 12 _ hc rfl (by omega) (by omega)
  | exact yy843 _ hc rfl rfl
  | exact yy469 hc rfl rfl (.inr rfl)
  | exact yy469 hc rfl rfl (.inl (by show (3 : Int) ≠ 4; omega))
  | exact yy469 hc rfl rfl (.inl (by show (1 : Int) ≠ 4; omega))
end Go.Proofs.YtjpjdkdbgjipnaaDoor
