/-
  Definitions: which may be, as bytes, and from bytes: plain mathematics.
-/
import Derived.Test.YtlaiacjlphjmlaaTyZ
import Derived.Test.YtlaiacjlphjmlaaVZ
namespace Go.Proofs.Ytlaiacjlphjmlaa
section
set_option linter.unusedVariables false
open V.Pack (byte urow zz unzz rd rd0_ok rd0_urow urow_len unzz_zz zz_unzz zz_lt byte_nat val_urow)

abbrev BB := List (BitVec 8)
/-- A flow, a place, a definition. -/
structure Fl where
  to : Int
  ifs : List Tr
structure Pl where
  kind : Int
  name : Bs
  n : Int
  arg : List Tr
  out : List Fl
structure Df where
  id : Bs
  places : List Pl
def zeroF : Fl := ⟨0, []⟩
def zeroP : Pl := ⟨0, [], 0, [], []⟩
def zeroD : Df := ⟨[], []⟩
/- Which may be. -/
def typedM (truth : Bool) (t : Tr) : Nat := if (truthM t).2 ≠ 0 then (truthM t).2 else if (truthM t).1 = truth then 0 else 7
def namedK (k : Int) : Bool := decide (k = 2 ∨ k = 6 ∨ k = 9)
def triesK (k : Int) : Int := if k = 2 then 9 else 0
def argsK (k : Int) : Nat := if k = 6 ∨ k = 7 ∨ k = 9 then 1 else 0
def leastK (k : Int) : Nat := if k = 4 then 2 else if k = 8 then 0 else 1
def mostK (k : Int) : Nat := if k = 3 ∨ k = 4 then 16 else if k = 8 then 0 else 1
def nameFitsM (k : Int) (t : Bs) : Bool := if namedK k = true then nameOk t && (decide (k ≠ 9) || (decide (t ≠ yesB) && decide (t ≠ noB))) else decide (t = [])
def fieldsM (p : Pl) : Nat :=
  if p.kind < 1 ∨ 9 < p.kind then 1 else if nameFitsM p.kind p.name = false then 1 else if p.n < 0 ∨ triesK p.kind < p.n then 2
  else if p.arg.length ≠ argsK p.kind then 1 else if p.out.length < leastK p.kind ∨ mostK p.kind < p.out.length then 8 else firstBad (typedM false) p.arg
def countM (n : Nat) (xor last : Bool) : Bool := if xor = false then decide (n = 0) else if last = true then decide (n ≤ 1) else decide (n = 1)
def flowM (k : Int) (last : Bool) (n : Nat) (f : Fl) : Nat :=
  if f.to < 1 ∨ (n : Int) ≤ f.to then 8 else if countM f.ifs.length (decide (k = 3)) last = false then 8 else firstBad (typedM true) f.ifs
/-- The first of some that is not 0. -/
def firstIx (f : Nat → Nat) : Nat → Nat → Nat
  | _, 0 => 0
  | i, n + 1 => if f i ≠ 0 then f i else firstIx f (i + 1) n
theorem firstIx_from (f : Nat → Nat) : ∀ (n i k : Nat), k < n → (∀ j, j < k → f (i + j) = 0) → f (i + k) ≠ 0 → firstIx f i n = f (i + k)
  | 0, i, k, h, _, _ => absurd h (Nat.not_lt_zero _)
  | n + 1, i, 0, _, _, h => by rw [firstIx]; exact if_pos h
  | n + 1, i, k + 1, h, h0, h1 => by
    have e : f i = 0 := h0 0 (by omega)
    rw [firstIx, if_neg (by omega), firstIx_from f n (i + 1) k (by omega) (fun j hj => by have := h0 (j + 1) (by omega); rw [← this]; congr 1; omega) (by rw [show i + 1 + k = i + (k + 1) by omega]; exact h1)]
    congr 1; omega
theorem firstIx_at {f : Nat → Nat} {n k : Nat} (h : k < n) (h0 : ∀ j, j < k → f j = 0) (h1 : f k ≠ 0) : firstIx f 0 n = f k := by
  have := firstIx_from f n 0 k h (fun j hj => by rw [Nat.zero_add]; exact h0 j hj) (by rw [Nat.zero_add]; exact h1)
  rwa [Nat.zero_add] at this
theorem firstIx_nothing (f : Nat → Nat) : ∀ (n i : Nat), (∀ j, j < n → f (i + j) = 0) → firstIx f i n = 0
  | 0, i, _ => rfl
  | n + 1, i, h => by
    have e : f i = 0 := h 0 (by omega)
    rw [firstIx, if_neg (by omega)]
    exact firstIx_nothing f n (i + 1) fun j hj => by rw [show i + 1 + j = i + (j + 1) by omega]; exact h (j + 1) (by omega)
theorem firstIx_none {f : Nat → Nat} {n : Nat} (h : ∀ j, j < n → f j = 0) : firstIx f 0 n = 0 := firstIx_nothing f n 0 fun j hj => by rw [Nat.zero_add]; exact h j hj
theorem firstIx_zero {f : Nat → Nat} : ∀ {n i : Nat}, firstIx f i n = 0 → ∀ j, j < n → f (i + j) = 0
  | 0, i, _, j, hj => absurd hj (Nat.not_lt_zero _)
  | n + 1, i, h, j, hj => by
    rw [firstIx] at h
    by_cases e : f i = 0
    · rw [if_neg (by omega)] at h
      cases j with
      | zero => exact e
      | succ j => have := firstIx_zero h j (by omega); rw [← this]; congr 1; omega
    · rw [if_pos e] at h; exact absurd h e
def flowsM (p : Pl) (n : Nat) : Nat := firstIx (fun i => flowM p.kind (decide (i + 1 = p.out.length)) n (p.out.getD i zeroF)) 0 p.out.length
def placeM (p : Pl) (i n : Nat) : Nat := if fieldsM p ≠ 0 then fieldsM p else if decide (p.kind = 1) ≠ decide (i = 0) then 8 else flowsM p n
def checkD (d : Df) : Nat :=
  if nameOk d.id = false then 1 else if 4096 < d.places.length then 6 else if d.places.length = 0 then 8 else firstIx (fun i => placeM (d.places.getD i zeroP) i d.places.length) 0 d.places.length
/- As bytes. -/
def nb (t : Bs) : BB := t.map fun b => BitVec.ofNat 8 b.toNat
def bn (l : BB) : Bs := l.map fun b => UInt8.ofNat b.toNat
theorem nb_len (t : Bs) : (nb t).length = t.length := by simp [nb]
theorem bn_len (t : BB) : (bn t).length = t.length := by simp [bn]
theorem bn_nb (t : Bs) : bn (nb t) = t := by
  unfold bn nb
  rw [List.map_map]
  have : ((fun b : BitVec 8 => UInt8.ofNat b.toNat) ∘ fun b : UInt8 => BitVec.ofNat 8 b.toNat) = id := by
    funext b
    have := b.toNat_lt
    simp only [Function.comp, BitVec.toNat_ofNat, id]
    rw [Nat.mod_eq_of_lt (by omega)]
    simp
  rw [this, List.map_id]
theorem nb_bn (l : BB) : nb (bn l) = l := by
  unfold bn nb
  rw [List.map_map]
  have : ((fun b : UInt8 => BitVec.ofNat 8 b.toNat) ∘ fun b : BitVec 8 => UInt8.ofNat b.toNat) = id := by
    funext b
    have := b.isLt
    apply BitVec.eq_of_toNat_eq
    simp [Function.comp]
  rw [this, List.map_id]
def textB (t : Bs) : BB := urow t.length ++ nb t
def treeB : Nat → Tr → BB
  | 0, _ => []
  | d + 1, t => byte t.kind.toNat :: ((if t.kind = 1 then urow (zz t.n) else if t.kind = 2 then textB t.name else []) ++ t.kids.flatMap (treeB d))
def maybeB (l : List Tr) : BB := byte l.length :: l.flatMap (treeB 16)
def flowB (f : Fl) : BB := urow f.to.toNat ++ maybeB f.ifs
def placeB (p : Pl) : BB := byte p.kind.toNat :: (textB p.name ++ (urow p.n.toNat ++ (maybeB p.arg ++ (urow p.out.length ++ p.out.flatMap flowB))))
def defB (d : Df) : BB := textB d.id ++ (urow d.places.length ++ d.places.flatMap placeB)
/- From bytes. -/
abbrev Rds (α : Type) := BB → Except Nat (α × BB)
def codeN (r : V.Pack.Res) : Nat := match r with
  | .inl _ => 0
  | .inr true => 2
  | .inr false => 5
def bindE {α β : Type} (f : Rds α) (g : α → Rds β) : Rds β := fun l => match f l with
  | .ok (a, r) => g a r
  | .error e => .error e
def pureE {α : Type} (a : α) : Rds α := fun l => .ok (a, l)
def failE {α : Type} (e : Nat) : Rds α := fun _ => .error e
def byteE : Rds Nat := fun l => match l with
  | [] => .error 5
  | b :: r => .ok (b.toNat, r)
def uE : Rds Nat := fun l => match rd 0 l with
  | .inl k => .ok (V.Pack.val (l.take k), l.drop k)
  | .inr r => .error (codeN (.inr r))
def uintE (most : Nat) : Rds Nat := bindE uE fun n => if most < n then failE 6 else pureE n
def intE : Rds Int := bindE uE fun n => pureE (unzz n)
def takeE (m : Nat) : Rds BB := fun l => if m ≤ l.length then .ok (l.take m, l.drop m) else .error 5
def textE : Rds BB := bindE uE takeE
def manyE {α : Type} (f : Rds α) : Nat → Rds (List α)
  | 0 => pureE []
  | n + 1 => bindE (manyE f n) fun xs => bindE f fun x => pureE (xs ++ [x])
def treeE : Nat → Rds Tr
  | 0 => failE 6
  | d + 1 => bindE byteE fun b => if b < 1 ∨ 14 < b then failE 3
    else if b = 1 then bindE intE fun n => pureE ⟨1, n, [], []⟩
    else if b = 2 then bindE textE fun s => pureE ⟨2, 0, bn s, []⟩
    else bindE (manyE (treeE d) (kidsK b)) fun ks => pureE ⟨b, 0, [], ks⟩
def exprE : Rds Tr := bindE (treeE 16) fun t => if checkM 16 t ≠ 0 then failE (checkM 16 t) else pureE t
def maybeE : Rds (List Tr) := bindE byteE fun b => if b = 0 then pureE [] else if b = 1 then bindE exprE fun t => pureE [t] else failE 3
def flowE : Rds Fl := bindE (uintE 4096) fun to => bindE maybeE fun l => pureE ⟨to, l⟩
def placeE : Rds Pl := bindE byteE fun k => bindE textE fun s => bindE (uintE 9) fun n => bindE maybeE fun a => bindE (uintE 16) fun c => bindE (manyE flowE c) fun o => pureE ⟨k, bn s, n, a, o⟩
def defE : Rds Df := bindE textE fun s => bindE (uintE 4096) fun c => bindE (manyE placeE c) fun ps => pureE ⟨bn s, ps⟩
/-- The definition that bytes are, or the error. -/
def readE (l : BB) : Except Nat Df := match defE l with
  | .error e => .error e
  | .ok (d, r) => if r ≠ [] then .error 3 else if checkD d ≠ 0 then .error (checkD d) else .ok d
theorem bind_ok {α β : Type} {f : Rds α} {g : α → Rds β} {l r : BB} {y : β} (h : bindE f g l = .ok (y, r)) : ∃ a m, f l = .ok (a, m) ∧ g a m = .ok (y, r) := by
  unfold bindE at h
  split at h
  · rename_i a m e; exact ⟨a, m, e, h⟩
  · cases h
theorem bind_err {α β : Type} {f : Rds α} {g : α → Rds β} {l : BB} {e : Nat} (h : bindE f g l = .error e) : f l = .error e ∨ ∃ a m, f l = .ok (a, m) ∧ g a m = .error e := by
  unfold bindE at h
  split at h
  · rename_i a m q; exact .inr ⟨a, m, q, h⟩
  · rename_i q q2; cases h; exact .inl q2
/- More behind plays no part. -/
def Ext {α : Type} (f : Rds α) : Prop := ∀ l x r T, f l = .ok (x, r) → f (l ++ T) = .ok (x, r ++ T)
theorem Ext.bind {α β : Type} {f : Rds α} {g : α → Rds β} (hf : Ext f) (hg : ∀ a, Ext (g a)) : Ext (bindE f g) := fun l x r T h => by
  obtain ⟨a, m, h1, h2⟩ := bind_ok h
  show (match f (l ++ T) with | .ok (a, r) => g a r | .error e => .error e) = _
  rw [hf l a m T h1]
  exact hg a m x r T h2
theorem Ext.pure {α : Type} (a : α) : Ext (pureE a) := fun l x r T h => by cases h; rfl
theorem Ext.fail {α : Type} (e : Nat) : Ext (failE e : Rds α) := fun l x r T h => by cases h
theorem Ext.ite {α : Type} {c : Prop} [Decidable c] {f g : Rds α} (hf : Ext f) (hg : Ext g) : Ext (if c then f else g) := by split <;> assumption
theorem Ext.byte : Ext byteE := fun l x r T h => by
  cases l with
  | nil => cases h
  | cons b l => cases h; rfl
theorem uE_ok {l r : BB} {n : Nat} (h : uE l = .ok (n, r)) : l = urow n ++ r ∧ n < 18446744073709551616 := by
  unfold uE at h
  rcases hk : rd 0 l with k | q
  · rw [hk] at h
    simp only [Except.ok.injEq, Prod.mk.injEq] at h
    obtain ⟨rfl, rfl⟩ := h
    obtain ⟨a1, a2, a3, a4, a5⟩ := rd0_ok hk
    exact ⟨by rw [a4, List.take_append_drop], a5⟩
  · rw [hk] at h; cases h
theorem uE_row {n : Nat} (T : BB) (h : n < 18446744073709551616) : uE (urow n ++ T) = .ok (n, T) := by
  unfold uE
  rw [rd0_urow T h]
  simp only
  rw [List.take_left, List.drop_left, val_urow]
theorem Ext.u : Ext uE := fun l x r T h => by
  obtain ⟨rfl, h2⟩ := uE_ok h
  rw [List.append_assoc, uE_row _ h2]
theorem Ext.take (m : Nat) : Ext (takeE m) := fun l x r T h => by
  unfold takeE at h ⊢
  split at h
  · rename_i hm
    cases h
    rw [if_pos (by rw [List.length_append]; omega), List.take_append_of_le_length hm, List.drop_append_of_le_length hm]
  · cases h
theorem Ext.uint (m : Nat) : Ext (uintE m) := Ext.u.bind fun n => (Ext.fail 6).ite (Ext.pure n)
theorem Ext.int : Ext intE := Ext.u.bind fun n => Ext.pure _
theorem Ext.text : Ext textE := Ext.u.bind Ext.take
theorem Ext.many {α : Type} {f : Rds α} (h : Ext f) : ∀ n, Ext (manyE f n)
  | 0 => Ext.pure _
  | n + 1 => (Ext.many h n).bind fun xs => h.bind fun x => Ext.pure _
theorem Ext.tree : ∀ d, Ext (treeE d)
  | 0 => Ext.fail 6
  | d + 1 => Ext.byte.bind fun b => (Ext.fail 3).ite (Ext.ite (Ext.int.bind fun n => Ext.pure _) (Ext.ite (Ext.text.bind fun s => Ext.pure _) ((Ext.many (Ext.tree d) _).bind fun ks => Ext.pure _)))
theorem Ext.expr : Ext exprE := (Ext.tree 16).bind fun t => Ext.ite (Ext.fail _) (Ext.pure _)
theorem Ext.maybe : Ext maybeE := Ext.byte.bind fun b => Ext.ite (Ext.pure _) (Ext.ite (Ext.expr.bind fun t => Ext.pure _) (Ext.fail 3))
theorem Ext.flow : Ext flowE := (Ext.uint 4096).bind fun to => Ext.maybe.bind fun l => Ext.pure _
theorem Ext.place : Ext placeE := Ext.byte.bind fun k => Ext.text.bind fun s => (Ext.uint 9).bind fun n => Ext.maybe.bind fun a => (Ext.uint 16).bind fun c => (Ext.many Ext.flow c).bind fun o => Ext.pure _
theorem Ext.df : Ext defE := Ext.text.bind fun s => (Ext.uint 4096).bind fun c => (Ext.many Ext.place c).bind fun ps => Ext.pure _
/- Errors are none but errors. -/
def NZ {α : Type} (f : Rds α) : Prop := ∀ l e, f l = .error e → e ≠ 0
theorem NZ.bind {α β : Type} {f : Rds α} {g : α → Rds β} (hf : NZ f) (hg : ∀ a, NZ (g a)) : NZ (bindE f g) := fun l e h => by
  rcases bind_err h with h | ⟨a, m, h1, h2⟩
  · exact hf l e h
  · exact hg a m e h2
theorem NZ.pure {α : Type} (a : α) : NZ (pureE a) := fun l e h => by cases h
theorem NZ.fail {α : Type} {e : Nat} (h : e ≠ 0) : NZ (failE e : Rds α) := fun l x q => by cases q; exact h
theorem NZ.ite {α : Type} {c : Prop} [Decidable c] {f g : Rds α} (hf : c → NZ f) (hg : NZ g) : NZ (if c then f else g) := by
  split
  · exact hf ‹_›
  · exact hg
theorem NZ.byte : NZ byteE := fun l e h => by
  cases l with
  | nil => cases h; decide
  | cons b l => cases h
theorem NZ.u : NZ uE := fun l e h => by
  unfold uE at h
  rcases hk : rd 0 l with k | q
  · rw [hk] at h; cases h
  · rw [hk] at h; cases h; cases q <;> decide
theorem NZ.take (m : Nat) : NZ (takeE m) := fun l e h => by
  unfold takeE at h
  split at h
  · cases h
  · cases h; decide
theorem NZ.uint (m : Nat) : NZ (uintE m) := NZ.u.bind fun n => NZ.ite (fun _ => NZ.fail (by decide)) (NZ.pure n)
theorem NZ.int : NZ intE := NZ.u.bind fun n => NZ.pure _
theorem NZ.text : NZ textE := NZ.u.bind NZ.take
theorem NZ.many {α : Type} {f : Rds α} (h : NZ f) : ∀ n, NZ (manyE f n)
  | 0 => NZ.pure _
  | n + 1 => (NZ.many h n).bind fun xs => h.bind fun x => NZ.pure _
theorem NZ.tree : ∀ d, NZ (treeE d)
  | 0 => NZ.fail (by decide)
  | d + 1 => NZ.byte.bind fun b => NZ.ite (fun _ => NZ.fail (by decide)) (NZ.ite (fun _ => NZ.int.bind fun n => NZ.pure _) (NZ.ite (fun _ => NZ.text.bind fun s => NZ.pure _) ((NZ.many (NZ.tree d) _).bind fun ks => NZ.pure _)))
theorem NZ.expr : NZ exprE := (NZ.tree 16).bind fun t => NZ.ite (fun h => NZ.fail h) (NZ.pure _)
theorem NZ.maybe : NZ maybeE := NZ.byte.bind fun b => NZ.ite (fun _ => NZ.pure _) (NZ.ite (fun _ => NZ.expr.bind fun t => NZ.pure _) (NZ.fail (by decide)))
theorem NZ.flow : NZ flowE := (NZ.uint 4096).bind fun to => NZ.maybe.bind fun l => NZ.pure _
theorem NZ.place : NZ placeE := NZ.byte.bind fun k => NZ.text.bind fun s => (NZ.uint 9).bind fun n => NZ.maybe.bind fun a => (NZ.uint 16).bind fun c => (NZ.many NZ.flow c).bind fun o => NZ.pure _
theorem NZ.df : NZ defE := NZ.text.bind fun s => (NZ.uint 4096).bind fun c => (NZ.many NZ.place c).bind fun ps => NZ.pure _
/- Readers that keep the first error. -/
structure Sst where
  err : Nat
  rest : BB
/-- What a reader that keeps the first error does. -/
def After {α : Type} (f : Rds α) (s : Sst) (x : α) (s' : Sst) : Prop :=
  if s.err ≠ 0 then s' = s else match f s.rest with
    | .ok (a, r) => x = a ∧ s' = ⟨0, r⟩
    | .error e => e ≠ 0 ∧ s' = ⟨e, []⟩
theorem After.bind {α β : Type} {f : Rds α} {g : α → Rds β} {s s1 s2 : Sst} {x : α} {y : β} (h1 : After f s x s1) (h2 : After (g x) s1 y s2) : After (bindE f g) s y s2 := by
  unfold After at *
  by_cases he : s.err ≠ 0
  · rw [if_pos he] at h1 ⊢
    subst h1
    rwa [if_pos he] at h2
  · rw [if_neg he] at h1 ⊢
    unfold bindE
    cases hf : f s.rest with
    | ok ar =>
      obtain ⟨a, r⟩ := ar
      rw [hf] at h1
      obtain ⟨rfl, rfl⟩ := h1
      rw [if_neg (by simp)] at h2
      exact h2
    | error e =>
      rw [hf] at h1
      obtain ⟨h3, rfl⟩ := h1
      rw [if_pos h3] at h2
      exact ⟨h3, h2⟩
theorem After.pure {α : Type} (x : α) (s : Sst) : After (pureE x) s x s := by
  unfold After
  split
  · rfl
  · rename_i h
    obtain ⟨e, l⟩ := s
    have : e = 0 := by simpa using h
    subst this
    exact ⟨rfl, rfl⟩
/-- The first error is kept. -/
def refuseS (e : Nat) (s : Sst) : Sst := if e ≠ 0 ∧ s.err = 0 then ⟨e, []⟩ else s
theorem After.fail {α : Type} {e : Nat} (he : e ≠ 0) (x : α) (s : Sst) : After (failE e) s x (refuseS e s) := by
  unfold After refuseS
  by_cases h : s.err ≠ 0
  · rw [if_pos h, if_neg (by rintro ⟨_, h2⟩; exact h h2)]
  · rw [if_neg h, if_pos ⟨he, by simpa using h⟩]
    exact ⟨he, rfl⟩
end
section
set_option linter.unusedVariables false
open V.Pack (byte urow zz unzz rd rd0_ok rd0_urow urow_len unzz_zz zz_unzz zz_lt byte_nat val_urow)

/-- What is read from such bytes. -/
def Wr {α : Type} (f : Rds α) (x : α) (bs : BB) : Prop := ∀ T, f (bs ++ T) = .ok (x, T)
theorem Wr.bind {α β : Type} {f : Rds α} {g : α → Rds β} {a : α} {y : β} {bs cs : BB} (h1 : Wr f a bs) (h2 : Wr (g a) y cs) : Wr (bindE f g) y (bs ++ cs) := fun T => by
  unfold bindE
  rw [List.append_assoc, h1]
  exact h2 T
theorem Wr.pure {α : Type} (a : α) : Wr (pureE a) a [] := fun T => rfl
theorem Wr.then {α β : Type} {f : Rds α} {a : α} {bs : BB} (h : Wr f a bs) (g : α → β) : Wr (bindE f fun x => pureE (g x)) (g a) bs := by
  have := h.bind (g := fun x => pureE (g x)) (Wr.pure (g a))
  rwa [List.append_nil] at this
theorem Wr.bit8 (b : BitVec 8) : Wr byteE b.toNat [b] := fun T => rfl
theorem Wr.u {n : Nat} (h : n < 18446744073709551616) : Wr uE n (urow n) := fun T => uE_row T h
theorem Wr.uint {m n : Nat} (h : n ≤ m) (h2 : n < 18446744073709551616) : Wr (uintE m) n (urow n) := by
  have := (Wr.u h2).bind (g := fun n => if m < n then failE 6 else pureE n) (y := n) (cs := []) (by rw [if_neg (by omega)]; exact Wr.pure n)
  rwa [List.append_nil] at this
theorem Wr.int {n : Int} (h : InR n) : Wr intE n (urow (zz n)) := by
  have := (Wr.u (zz_lt h.1 h.2)).then (fun n => unzz n)
  rwa [unzz_zz] at this
theorem Wr.take (s : BB) : Wr (takeE s.length) s s := fun T => by
  unfold takeE
  rw [if_pos (by simp), List.take_left, List.drop_left]
theorem Wr.text {s : BB} (h : s.length < 18446744073709551616) : Wr textE s (urow s.length ++ s) := (Wr.u h).bind (Wr.take s)
theorem Wr.many {α : Type} {f : Rds α} {B : α → BB} {l : List α} (h : ∀ x ∈ l, Wr f x (B x)) : ∀ n, n ≤ l.length → Wr (manyE f n) (l.take n) ((l.take n).flatMap B)
  | 0, _ => by show Wr (pureE []) _ _; simpa using Wr.pure ([] : List α)
  | n + 1, hn => by
    have hlt : n < l.length := by omega
    have h1 := Wr.many h n (by omega)
    have h2 := h1.bind (g := fun xs => bindE f fun x => pureE (xs ++ [x])) ((h l[n] (List.getElem_mem hlt)).then fun x => l.take n ++ [x])
    rw [List.take_succ_eq_append_getElem hlt, List.flatMap_append, List.flatMap_cons, List.flatMap_nil, List.append_nil]
    exact h2
theorem Wr.all {α : Type} {f : Rds α} {B : α → BB} {l : List α} (h : ∀ x ∈ l, Wr f x (B x)) : Wr (manyE f l.length) l (l.flatMap B) := by
  have := Wr.many h l.length (Nat.le_refl _)
  rwa [List.take_length] at this
def NumsIn : Nat → Tr → Prop
  | 0, _ => True
  | d + 1, t => InR t.n ∧ ∀ k ∈ t.kids, NumsIn d k
theorem nameOk_len {t : Bs} (h1 : nameOk t = true) : t.length ≤ 32 := by
  unfold nameOk at h1
  split at h1
  · cases h1
  · simp only [Bool.and_eq_true, decide_eq_true_eq] at h1
    exact h1.2
theorem name_short {d : Nat} {t : Tr} (h : checkM (d + 1) t = 0) : t.name.length ≤ 32 := by
  have hs := shape h
  by_cases e : t.kind = 2
  · have hf := (check_fits h).1
    unfold fitsM at hf
    simp only [if_pos e] at hf
    refine nameOk_len ?_
    split at hf
    · cases hf
    · split at hf
      · cases hf
      · simp only [Bool.and_eq_true] at hf
        exact hf.1.1
  · rw [hs.name e]; exact Nat.zero_le _
theorem textB_nb (t : Bs) : textB t = urow (nb t).length ++ nb t := by unfold textB; rw [nb_len]
theorem Wr.name {t : Bs} (h : t.length ≤ 32) : Wr textE (nb t) (textB t) := by rw [textB_nb]; exact Wr.text (by rw [nb_len]; omega)
theorem Wr.tree : ∀ (d : Nat) (t : Tr), checkM d t = 0 → NumsIn d t → Wr (treeE d) t (treeB d t)
  | 0, t, h, _ => by cases h
  | d + 1, t, h, hn => by
    have hs := shape h
    have hnm := name_short h
    have lo := hs.lo; have hi := hs.hi
    obtain ⟨k, n, nm, ks⟩ := t
    simp only at lo hi hnm
    obtain ⟨m, rfl⟩ : ∃ m : Nat, k = (m : Int) := ⟨k.toNat, by omega⟩
    have hb : (byte m).toNat = m := byte_nat (by omega)
    have hw := Wr.bit8 (byte m)
    rw [hb] at hw
    show Wr (treeE (d + 1)) (⟨(m : Int), n, nm, ks⟩ : Tr) ([byte ((m : Int)).toNat] ++ ((if (m : Int) = 1 then urow (zz n) else if (m : Int) = 2 then textB nm else []) ++ ks.flatMap (treeB d)))
    rw [Int.toNat_natCast]
    refine hw.bind ?_
    rw [if_neg (by omega)]
    by_cases e1 : m = 1
    · subst e1
      rw [if_pos rfl, if_pos (by decide)]
      have hk : ks = [] := by
        rcases hs.kids with ⟨_, q⟩ | ⟨q, _⟩ | ⟨q, _⟩
        · exact q
        · simp at q
        · simp at q
      have hnm0 : nm = [] := hs.name (by simp)
      subst hk; subst hnm0
      simp only [List.flatMap_nil, List.append_nil]
      exact (Wr.int hn.1).then fun n => (⟨1, n, [], []⟩ : Tr)
    · have e1' : ¬ (m : Int) = 1 := by omega
      rw [if_neg e1, if_neg e1']
      have hn0 : n = 0 := hs.num0 e1'
      subst hn0
      by_cases e2 : m = 2
      · subst e2
        rw [if_pos rfl, if_pos (by decide)]
        have hk : ks = [] := by
          rcases hs.kids with ⟨_, q⟩ | ⟨q, _⟩ | ⟨q, _⟩
          · exact q
          · simp at q
          · simp at q
        subst hk
        simp only [List.flatMap_nil, List.append_nil]
        have := (Wr.name hnm).then fun s => (⟨2, 0, bn s, []⟩ : Tr)
        rwa [bn_nb] at this
      · have e2' : ¬ (m : Int) = 2 := by omega
        rw [if_neg e2, if_neg e2']
        have hnm0 : nm = [] := hs.name e2'
        subst hnm0
        rw [List.nil_append]
        have hl : ks.length = kidsK m := by
          have hf := (check_fits h).1
          unfold fitsM at hf
          split at hf
          · cases hf
          · rename_i q
            simp only at q
            exact Classical.byContradiction fun c => q (.inr (.inr c))
        rw [← hl]
        exact (Wr.all fun x hx => Wr.tree d x ((check_fits h).2 x hx) (hn.2 x hx)).then fun ks => (⟨m, 0, [], ks⟩ : Tr)
theorem typed_check {b : Bool} {t : Tr} (h : typedM b t = 0) : checkM 16 t = 0 := by
  unfold typedM truthM at h
  by_cases e : checkM 16 t = 0
  · exact e
  · simp [e] at h
theorem Wr.expr {t : Tr} (h : checkM 16 t = 0) (hn : NumsIn 16 t) : Wr exprE t (treeB 16 t) := by
  have := (Wr.tree 16 t h hn).bind (g := fun t => if checkM 16 t ≠ 0 then failE (checkM 16 t) else pureE t) (y := t) (cs := []) (by rw [if_neg (by simp [h])]; exact Wr.pure t)
  rwa [List.append_nil] at this
theorem Wr.maybe {l : List Tr} (hl : l.length ≤ 1) (h : ∀ t ∈ l, checkM 16 t = 0 ∧ NumsIn 16 t) : Wr maybeE l (maybeB l) := by
  match l, hl, h with
  | [], _, _ =>
    have := (Wr.bit8 (byte 0)).bind (g := fun b => if b = 0 then pureE [] else if b = 1 then bindE exprE fun t => pureE [t] else failE 3) (y := ([] : List Tr)) (cs := []) (by rw [if_pos (by decide)]; exact Wr.pure _)
    exact this
  | [t], _, h =>
    have := (Wr.bit8 (byte 1)).bind (g := fun b => if b = 0 then pureE [] else if b = 1 then bindE exprE fun t => pureE [t] else failE 3) (y := [t]) (cs := treeB 16 t) (by
      rw [if_neg (by decide), if_pos (by decide)]
      exact (Wr.expr (h t (by simp)).1 (h t (by simp)).2).then fun t => [t])
    have e : maybeB [t] = [byte 1] ++ treeB 16 t := by simp [maybeB]
    rw [e]; exact this
/- Numbers that the machine has. -/
def FNums (f : Fl) : Prop := InR f.to ∧ ∀ t ∈ f.ifs, NumsIn 16 t
def PNums (p : Pl) : Prop := (∀ t ∈ p.arg, NumsIn 16 t) ∧ ∀ f ∈ p.out, FNums f
def DNums (d : Df) : Prop := ∀ p ∈ d.places, PNums p
theorem flow_facts {k : Int} {last : Bool} {n : Nat} {f : Fl} (h : flowM k last n f = 0) : 1 ≤ f.to ∧ f.to < n ∧ f.ifs.length ≤ 1 ∧ ∀ t ∈ f.ifs, checkM 16 t = 0 := by
  unfold flowM at h
  split at h
  · omega
  · rename_i h1
    split at h
    · omega
    · rename_i h2
      refine ⟨by omega, by omega, ?_, fun t ht => typed_check (firstBad_zero h t ht)⟩
      unfold countM at h2
      split at h2
      · simp at h2; simp [h2]
      · split at h2
        · simpa using h2
        · simp at h2; omega
theorem Wr.flow {k : Int} {last : Bool} {n : Nat} {f : Fl} (hn : n ≤ 4096) (h : flowM k last n f = 0) (hN : FNums f) : Wr flowE f (flowB f) := by
  obtain ⟨h1, h2, h3, h4⟩ := flow_facts h
  obtain ⟨to, l⟩ := f
  simp only at h1 h2 h3 h4
  obtain ⟨m, rfl⟩ : ∃ m : Nat, to = (m : Int) := ⟨to.toNat, by omega⟩
  refine (Wr.uint (m := 4096) (n := m) (by omega) (by omega)).bind ?_
  exact (Wr.maybe h3 fun t ht => ⟨h4 t ht, hN.2 t ht⟩).then fun l => (⟨(m : Int), l⟩ : Fl)
structure PFacts (p : Pl) (n : Nat) : Prop where
  lo : 1 ≤ p.kind
  hi : p.kind ≤ 9
  name : p.name.length ≤ 32
  n0 : 0 ≤ p.n
  n9 : p.n ≤ 9
  arg1 : p.arg.length ≤ 1
  arg : ∀ t ∈ p.arg, checkM 16 t = 0
  out16 : p.out.length ≤ 16
  out : ∀ i, i < p.out.length → flowM p.kind (decide (i + 1 = p.out.length)) n (p.out.getD i zeroF) = 0
theorem place_facts {p : Pl} {i n : Nat} (h : placeM p i n = 0) : PFacts p n := by
  unfold placeM at h
  split at h
  · rename_i q; exact absurd h q
  · rename_i h0
    split at h
    · omega
    · have hf : fieldsM p = 0 := by omega
      unfold fieldsM at hf
      split at hf
      · omega
      · rename_i f1
        split at hf
        · omega
        · rename_i f2
          split at hf
          · omega
          · rename_i f3
            split at hf
            · omega
            · rename_i f4
              split at hf
              · omega
              · rename_i f5
                refine ⟨by omega, by omega, ?_, by omega, ?_, ?_, fun t ht => typed_check (firstBad_zero hf t ht), ?_, fun i hi => ?_⟩
                · unfold nameFitsM at f2
                  split at f2
                  · simp only [Bool.not_eq_false, Bool.and_eq_true] at f2
                    exact nameOk_len f2.1
                  · simp only [Bool.not_eq_false, decide_eq_true_eq] at f2
                    rw [f2]; exact Nat.zero_le _
                · unfold triesK at f3; split at f3 <;> omega
                · have : p.arg.length = argsK p.kind := by simpa using f4
                  rw [this]; unfold argsK; split <;> omega
                · have : mostK p.kind ≤ 16 := by unfold mostK; repeat' split
                                                 all_goals omega
                  omega
                · have := firstIx_zero h i hi
                  rwa [Nat.zero_add] at this
theorem getD_memF {l : List Fl} {i : Nat} (h : i < l.length) : l.getD i zeroF = l[i] := by rw [List.getD_eq_getElem?_getD, List.getElem?_eq_getElem h]; rfl
theorem getD_memP {l : List Pl} {i : Nat} (h : i < l.length) : l.getD i zeroP = l[i] := by rw [List.getD_eq_getElem?_getD, List.getElem?_eq_getElem h]; rfl
theorem PFacts.flow {p : Pl} {n : Nat} (h : PFacts p n) : ∀ f ∈ p.out, ∃ last, flowM p.kind last n f = 0 := fun f hf => by
  obtain ⟨i, hi, rfl⟩ := List.getElem_of_mem hf
  have := h.out i hi
  rw [getD_memF hi] at this
  exact ⟨_, this⟩
theorem Wr.place {p : Pl} {n : Nat} (hn : n ≤ 4096) (h : PFacts p n) (hN : PNums p) : Wr placeE p (placeB p) := by
  have hflow := h.flow
  obtain ⟨lo, hi, nm, n0, n9, a1, ar, o16, ou⟩ := h
  obtain ⟨k, s, m, ar', ou'⟩ := p
  simp only at *
  obtain ⟨k, rfl⟩ : ∃ j : Nat, k = (j : Int) := ⟨k.toNat, by omega⟩
  obtain ⟨m, rfl⟩ : ∃ j : Nat, m = (j : Int) := ⟨m.toNat, by omega⟩
  have hb : (byte k).toNat = k := byte_nat (by omega)
  have hw := Wr.bit8 (byte k)
  rw [hb] at hw
  show Wr placeE _ ([byte ((k : Int)).toNat] ++ _)
  rw [Int.toNat_natCast]
  refine hw.bind ?_
  refine (Wr.name nm).bind ?_
  refine (Wr.uint (m := 9) (n := m) (by omega) (by omega)).bind ?_
  refine (Wr.maybe a1 fun t ht => ⟨ar t ht, hN.1 t ht⟩).bind ?_
  refine (Wr.uint (m := 16) (n := ou'.length) o16 (by omega)).bind ?_
  have := (Wr.all (f := flowE) (B := flowB) (l := ou') fun f hf => by obtain ⟨last, q⟩ := hflow f hf; exact Wr.flow hn q (hN.2 f hf)).then fun o => (⟨(k : Int), bn (nb s), (m : Int), ar', o⟩ : Pl)
  rw [bn_nb] at this
  rw [bn_nb]
  exact this
structure DFacts (d : Df) : Prop where
  id : d.id.length ≤ 32
  len : d.places.length ≤ 4096
  pos : 0 < d.places.length
  place : ∀ p ∈ d.places, PFacts p d.places.length
theorem def_facts {d : Df} (h : checkD d = 0) : DFacts d := by
  unfold checkD at h
  split at h
  · omega
  · rename_i h1
    split at h
    · omega
    · rename_i h2
      split at h
      · omega
      · refine ⟨nameOk_len (by simpa using h1), by omega, by omega, fun p hp => ?_⟩
        obtain ⟨i, hi, rfl⟩ := List.getElem_of_mem hp
        have := firstIx_zero h i hi
        rw [Nat.zero_add, getD_memP hi] at this
        exact place_facts this
theorem Wr.df {d : Df} (h : checkD d = 0) (hN : DNums d) : Wr defE d (defB d) := by
  obtain ⟨i1, i2, i3, i4⟩ := def_facts h
  refine (Wr.name i1).bind ?_
  refine (Wr.uint (m := 4096) (n := d.places.length) i2 (by omega)).bind ?_
  have := (Wr.all (f := placeE) (B := placeB) (l := d.places) fun p hp => Wr.place i2 (i4 p hp) (hN p hp)).then fun ps => (⟨bn (nb d.id), ps⟩ : Df)
  rw [bn_nb] at this
  rw [bn_nb]
  exact this
theorem read_back {d : Df} (h : checkD d = 0) (hN : DNums d) : readE (defB d) = .ok d := by
  have := Wr.df h hN []
  rw [List.append_nil] at this
  unfold readE
  rw [this]
  simp [h]
theorem read_more {d : Df} (h : checkD d = 0) (hN : DNums d) {T : BB} (hT : T ≠ []) : readE (defB d ++ T) = .error 3 := by
  unfold readE
  rw [Wr.df h hN T]
  simp [hT]
theorem read_nz {l : BB} {e : Nat} (h : readE l = .error e) : e ≠ 0 := by
  unfold readE at h
  cases hd : defE l with
  | error c => rw [hd] at h; cases h; exact NZ.df l _ hd
  | ok dr =>
    obtain ⟨d, r⟩ := dr
    rw [hd] at h
    simp only at h
    split at h
    · cases h; decide
    · split at h
      · rename_i q; cases h; exact q
      · cases h
theorem read_cut {d : Df} (h : checkD d = 0) (hN : DNums d) {k : Nat} (hk : k < (defB d).length) : ∃ e, readE ((defB d).take k) = .error e ∧ e ≠ 0 := by
  cases hr : readE ((defB d).take k) with
  | error e => exact ⟨e, rfl, read_nz hr⟩
  | ok d' =>
    exfalso
    unfold readE at hr
    cases hd : defE ((defB d).take k) with
    | error c => rw [hd] at hr; cases hr
    | ok dr =>
      obtain ⟨d2, r⟩ := dr
      rw [hd] at hr
      simp only at hr
      split at hr
      · cases hr
      · rename_i q
        have hr0 : r = [] := by simpa using q
        subst hr0
        have h1 := Ext.df _ _ _ ((defB d).drop k) hd
        rw [List.take_append_drop] at h1
        have h2 := Wr.df h hN []
        rw [List.append_nil, h1] at h2
        simp only [List.nil_append, Except.ok.injEq, Prod.mk.injEq] at h2
        have := congrArg List.length h2.2
        rw [List.length_drop] at this
        simp at this
        omega
/- What is read was written in just that way. -/
theorem byteE_once {l r : BB} {n : Nat} (h : byteE l = .ok (n, r)) : l = byte n :: r ∧ n < 256 := by
  cases l with
  | nil => cases h
  | cons b l =>
    cases h
    refine ⟨?_, b.isLt⟩
    rw [show byte b.toNat = b from by simp [byte]]
theorem uintE_once {m : Nat} {l r : BB} {n : Nat} (h : uintE m l = .ok (n, r)) : l = urow n ++ r ∧ n ≤ m ∧ n < 18446744073709551616 := by
  obtain ⟨a, q, h1, h2⟩ := bind_ok h
  split at h2
  · cases h2
  · rename_i c
    cases h2
    obtain ⟨e, e2⟩ := uE_ok h1
    exact ⟨e, by omega, e2⟩
theorem textE_once {l r s : BB} (h : textE l = .ok (s, r)) : l = textB (bn s) ++ r ∧ s.length < 18446744073709551616 := by
  obtain ⟨a, q, h1, h2⟩ := bind_ok h
  unfold takeE at h2
  split at h2
  · rename_i c
    cases h2
    obtain ⟨e, e2⟩ := uE_ok h1
    have hl : (q.take a).length = a := by rw [List.length_take]; omega
    refine ⟨?_, by omega⟩
    unfold textB
    rw [nb_bn, bn_len, hl, List.append_assoc, List.take_append_drop, ← e]
  · cases h2
theorem many_once {α : Type} {f : Rds α} {B : α → BB} (h : ∀ l x r, f l = .ok (x, r) → l = B x ++ r) : ∀ (n : Nat) (l r : BB) (xs : List α), manyE f n l = .ok (xs, r) → l = xs.flatMap B ++ r ∧ xs.length = n
  | 0, l, r, xs, q => by cases q; simp
  | n + 1, l, r, xs, q => by
    obtain ⟨ys, m, h1, h2⟩ := bind_ok q
    obtain ⟨x, m2, h3, h4⟩ := bind_ok h2
    cases h4
    obtain ⟨e1, e2⟩ := many_once h n _ _ _ h1
    have e3 := h _ _ _ h3
    refine ⟨?_, by simp [e2]⟩
    rw [e1, e3]; simp
theorem tree_once : ∀ (d : Nat) (l r : BB) (t : Tr), treeE d l = .ok (t, r) → l = treeB d t ++ r
  | 0, l, r, t, h => by cases h
  | d + 1, l, r, t, h => by
    obtain ⟨b, m, h1, h2⟩ := bind_ok h
    obtain ⟨e1, hb⟩ := byteE_once h1
    subst e1
    split at h2
    · cases h2
    · rename_i hr
      split at h2
      · rename_i e; subst e
        obtain ⟨n, m2, h3, h4⟩ := bind_ok h2
        cases h4
        obtain ⟨u, m3, h5, h6⟩ := bind_ok h3
        cases h6
        obtain ⟨e2, _⟩ := uE_ok h5
        subst e2
        show _ = byte 1 :: ((if (1 : Int) = 1 then urow (zz (unzz u)) else _) ++ []) ++ _
        rw [if_pos rfl, zz_unzz]; simp
      · rename_i n1
        split at h2
        · rename_i e; subst e
          obtain ⟨s, m2, h3, h4⟩ := bind_ok h2
          cases h4
          obtain ⟨e2, _⟩ := textE_once h3
          subst e2
          show _ = byte 2 :: ((if (2 : Int) = 1 then _ else if (2 : Int) = 2 then textB (bn s) else []) ++ []) ++ _
          rw [if_neg (by decide), if_pos rfl]; simp
        · rename_i n2
          obtain ⟨ks, m2, h3, h4⟩ := bind_ok h2
          cases h4
          obtain ⟨e2, _⟩ := many_once (B := treeB d) (fun l x r q => tree_once d l r x q) _ _ _ _ h3
          subst e2
          show _ = byte ((b : Int)).toNat :: ((if (b : Int) = 1 then _ else if (b : Int) = 2 then _ else []) ++ _) ++ _
          rw [if_neg (by omega), if_neg (by omega), Int.toNat_natCast]; simp
theorem expr_once {l r : BB} {t : Tr} (h : exprE l = .ok (t, r)) : l = treeB 16 t ++ r ∧ checkM 16 t = 0 := by
  obtain ⟨a, m, h1, h2⟩ := bind_ok h
  split at h2
  · cases h2
  · rename_i q
    cases h2
    exact ⟨tree_once 16 _ _ _ h1, by simpa using q⟩
theorem maybe_once {l r : BB} {ts : List Tr} (h : maybeE l = .ok (ts, r)) : l = maybeB ts ++ r := by
  obtain ⟨b, m, h1, h2⟩ := bind_ok h
  obtain ⟨e1, _⟩ := byteE_once h1
  subst e1
  split at h2
  · rename_i e; subst e; cases h2; rfl
  · split at h2
    · rename_i e; subst e
      obtain ⟨t, m2, h3, h4⟩ := bind_ok h2
      cases h4
      obtain ⟨e2, _⟩ := expr_once h3
      subst e2
      show _ = byte 1 :: ([t].flatMap (treeB 16)) ++ _
      simp
    · cases h2
theorem flow_once {l r : BB} {f : Fl} (h : flowE l = .ok (f, r)) : l = flowB f ++ r := by
  obtain ⟨to, m, h1, h2⟩ := bind_ok h
  obtain ⟨ts, m2, h3, h4⟩ := bind_ok h2
  cases h4
  obtain ⟨e1, _⟩ := uintE_once h1
  have e2 := maybe_once h3
  subst e1; subst e2
  show _ = urow ((to : Int)).toNat ++ _ ++ _
  rw [Int.toNat_natCast]; simp
theorem place_once {l r : BB} {p : Pl} (h : placeE l = .ok (p, r)) : l = placeB p ++ r := by
  obtain ⟨k, m1, h1, h⟩ := bind_ok h
  obtain ⟨s, m2, h2, h⟩ := bind_ok h
  obtain ⟨n, m3, h3, h⟩ := bind_ok h
  obtain ⟨a, m4, h4, h⟩ := bind_ok h
  obtain ⟨c, m5, h5, h⟩ := bind_ok h
  obtain ⟨o, m6, h6, h⟩ := bind_ok h
  cases h
  obtain ⟨e1, _⟩ := byteE_once h1
  obtain ⟨e2, _⟩ := textE_once h2
  obtain ⟨e3, _⟩ := uintE_once h3
  have e4 := maybe_once h4
  obtain ⟨e5, _⟩ := uintE_once h5
  obtain ⟨e6, e7⟩ := many_once (B := flowB) (fun l x r q => flow_once q) _ _ _ _ h6
  subst e1; subst e2; subst e3; subst e4; subst e5; subst e6
  show _ = byte ((k : Int)).toNat :: (textB (bn s) ++ (urow ((n : Int)).toNat ++ (maybeB a ++ (urow o.length ++ o.flatMap flowB)))) ++ _
  rw [Int.toNat_natCast, Int.toNat_natCast, e7]; simp
theorem def_once {l r : BB} {d : Df} (h : defE l = .ok (d, r)) : l = defB d ++ r := by
  obtain ⟨s, m1, h1, h⟩ := bind_ok h
  obtain ⟨c, m2, h2, h⟩ := bind_ok h
  obtain ⟨ps, m3, h3, h⟩ := bind_ok h
  cases h
  obtain ⟨e1, _⟩ := textE_once h1
  obtain ⟨e2, _⟩ := uintE_once h2
  obtain ⟨e3, e4⟩ := many_once (B := placeB) (fun l x r q => place_once q) _ _ _ _ h3
  subst e1; subst e2; subst e3
  show _ = textB (bn s) ++ (urow ps.length ++ ps.flatMap placeB) ++ _
  rw [e4]; simp
theorem read_once {l : BB} {d : Df} (h : readE l = .ok d) : l = defB d ∧ checkD d = 0 := by
  unfold readE at h
  cases hd : defE l with
  | error c => rw [hd] at h; cases h
  | ok dr =>
    obtain ⟨d2, r⟩ := dr
    rw [hd] at h
    simp only at h
    split at h
    · cases h
    · rename_i q1
      split at h
      · cases h
      · rename_i q2
        cases h
        have hr0 : r = [] := by simpa using q1
        subst hr0
        have := def_once hd
        rw [List.append_nil] at this
        exact ⟨this, by simpa using q2⟩
/- How long they are. -/
theorem flat_len {α : Type} {B : α → BB} {m : Nat} : ∀ {l : List α}, (∀ x ∈ l, (B x).length ≤ m) → (l.flatMap B).length ≤ l.length * m
  | [], _ => by simp
  | x :: l, h => by
    have h1 := h x (by simp)
    have h2 := flat_len (l := l) fun y hy => h y (by simp [hy])
    rw [List.flatMap_cons, List.length_append, List.length_cons, Nat.add_mul]
    omega
theorem textB_len {t : Bs} (h : t.length ≤ 32) : (textB t).length ≤ 42 := by
  unfold textB
  have := urow_len (n := t.length) (by omega)
  rw [List.length_append, nb_len]; omega
theorem treeB_len : ∀ (d : Nat) (t : Tr), checkM d t = 0 → NumsIn d t → (treeB d t).length + 1 ≤ 44 * 2 ^ d
  | 0, t, h, _ => by cases h
  | d + 1, t, h, hn => by
    have hs := shape h
    have hnm := name_short h
    have hz := urow_len (zz_lt hn.1.1 hn.1.2)
    have hp : 1 ≤ 2 ^ d := Nat.one_le_two_pow
    show (byte t.kind.toNat :: ((if t.kind = 1 then urow (zz t.n) else if t.kind = 2 then textB t.name else []) ++ t.kids.flatMap (treeB d))).length + 1 ≤ _
    rw [List.length_cons, List.length_append, Nat.pow_succ]
    have hh : (if t.kind = 1 then urow (zz t.n) else if t.kind = 2 then textB t.name else []).length ≤ 42 := by
      split
      · omega
      · split
        · exact textB_len hnm
        · simp
    rcases hs.kids with ⟨_, hk⟩ | ⟨h5, x, hk, hx⟩ | ⟨h7, x, y, hk, hx, hy⟩
    · rw [hk]; simp only [List.flatMap_nil, List.length_nil]; omega
    · have e : (if t.kind = 1 then urow (zz t.n) else if t.kind = 2 then textB t.name else []) = [] := by rw [if_neg (by omega), if_neg (by omega)]
      have := treeB_len d x hx (hn.2 x (by rw [hk]; simp))
      rw [e, hk]; simp only [List.flatMap_cons, List.flatMap_nil, List.length_nil, List.append_nil]; omega
    · have e : (if t.kind = 1 then urow (zz t.n) else if t.kind = 2 then textB t.name else []) = [] := by rw [if_neg (by omega), if_neg (by omega)]
      have := treeB_len d x hx (hn.2 x (by rw [hk]; simp))
      have := treeB_len d y hy (hn.2 y (by rw [hk]; simp))
      rw [e, hk]; simp only [List.flatMap_cons, List.flatMap_nil, List.length_nil, List.append_nil, List.length_append]; omega
theorem treeB_16 {t : Tr} (h : checkM 16 t = 0) (hn : NumsIn 16 t) : (treeB 16 t).length ≤ 2883583 := by
  have := treeB_len 16 t h hn
  omega
theorem maybeB_len {l : List Tr} (hl : l.length ≤ 1) (h : ∀ t ∈ l, checkM 16 t = 0 ∧ NumsIn 16 t) : (maybeB l).length ≤ 2883584 := by
  have := flat_len (B := treeB 16) (m := 2883583) (l := l) fun t ht => treeB_16 (h t ht).1 (h t ht).2
  unfold maybeB
  rw [List.length_cons]
  have : l.length * 2883583 ≤ 2883583 := by omega
  omega
theorem flowB_len {k : Int} {last : Bool} {n : Nat} {f : Fl} (hn : n ≤ 4096) (h : flowM k last n f = 0) (hN : FNums f) : (flowB f).length ≤ 2883594 := by
  obtain ⟨h1, h2, h3, h4⟩ := flow_facts h
  have := maybeB_len h3 fun t ht => ⟨h4 t ht, hN.2 t ht⟩
  have := urow_len (n := f.to.toNat) (by omega)
  unfold flowB
  rw [List.length_append]; omega
theorem placeB_len {p : Pl} {n : Nat} (hn : n ≤ 4096) (h : PFacts p n) (hN : PNums p) : (placeB p).length ≤ 50000000 := by
  have a1 := textB_len h.name
  have a2 := urow_len (n := p.n.toNat) (by have := h.n0; have := h.n9; omega)
  have a3 := maybeB_len h.arg1 fun t ht => ⟨h.arg t ht, hN.1 t ht⟩
  have a4 := urow_len (n := p.out.length) (by have := h.out16; omega)
  have a5 := flat_len (B := flowB) (m := 2883594) (l := p.out) fun f hf => by obtain ⟨last, q⟩ := h.flow f hf; exact flowB_len hn q (hN.2 f hf)
  have a6 : p.out.length * 2883594 ≤ 16 * 2883594 := Nat.mul_le_mul_right _ h.out16
  unfold placeB
  simp only [List.length_cons, List.length_append]
  omega
theorem defB_len {d : Df} (h : DFacts d) (hN : DNums d) : (defB d).length ≤ 204800000100 := by
  have a1 := textB_len h.id
  have a2 := urow_len (n := d.places.length) (by have := h.len; omega)
  have a3 := flat_len (B := placeB) (m := 50000000) (l := d.places) fun p hp => placeB_len h.len (h.place p hp) (hN p hp)
  have a4 : d.places.length * 50000000 ≤ 4096 * 50000000 := Nat.mul_le_mul_right _ h.len
  unfold defB
  simp only [List.length_append]
  omega
end
end Go.Proofs.Ytlaiacjlphjmlaa
