/-
  Definitions: which may be, as bytes, and from bytes: plain mathematics.
-/
import Derived.Test.YtjafjheffbbkmaaTru2
import Derived.Test.YtjafjheffbbkmaaVReads2
namespace Go.Proofs.Ytjafjheffbbkmaa
set_option linter.unusedVariables false
open V.Pack (byte urow zz unzz rd rd0_ok rd0_urow urow_len unzz_zz zz_unzz zz_lt byte_nat val_urow)

abbrev BB := List (BitVec 8)
/-- A flow, a place, a definition. -/
structure Fl where
  to : Int
  ifs : List Tr
structure Pl where
  kind : Int
  name : Bs
  n : Int
  arg : List Tr
  out : List Fl
structure Df where
  id : Bs
  places : List Pl
def zeroF : Fl := ⟨0, []⟩
def zeroP : Pl := ⟨0, [], 0, [], []⟩
def zeroD : Df := ⟨[], []⟩
/- Which may be. -/
def typedM (truth : Bool) (t : Tr) : Nat := if (truthM t).2 ≠ 0 then (truthM t).2 else if (truthM t).1 = truth then 0 else 7
def namedK (k : Int) : Bool := decide (k = 2 ∨ k = 6 ∨ k = 9)
def triesK (k : Int) : Int := if k = 2 then 9 else 0
def argsK (k : Int) : Nat := if k = 6 ∨ k = 7 ∨ k = 9 then 1 else 0
def leastK (k : Int) : Nat := if k = 4 then 2 else if k = 8 then 0 else 1
def mostK (k : Int) : Nat := if k = 3 ∨ k = 4 then 16 else if k = 8 then 0 else 1
def nameFitsM (k : Int) (t : Bs) : Bool := if namedK k = true then nameOk t && (decide (k ≠ 9) || (decide (t ≠ yesB) && decide (t ≠ noB))) else decide (t = [])
def fieldsM (p : Pl) : Nat :=
  if p.kind < 1 ∨ 9 < p.kind then 1 else if nameFitsM p.kind p.name = false then 1 else if p.n < 0 ∨ triesK p.kind < p.n then 2
  else if p.arg.length ≠ argsK p.kind then 1 else if p.out.length < leastK p.kind ∨ mostK p.kind < p.out.length then 8 else firstBad (typedM false) p.arg
def countM (n : Nat) (xor last : Bool) : Bool := if xor = false then decide (n = 0) else if last = true then decide (n ≤ 1) else decide (n = 1)
def flowM (k : Int) (last : Bool) (n : Nat) (f : Fl) : Nat :=
  if f.to < 1 ∨ (n : Int) ≤ f.to then 8 else if countM f.ifs.length (decide (k = 3)) last = false then 8 else firstBad (typedM true) f.ifs
/-- The first of some that is not 0. -/
def firstIx (f : Nat → Nat) : Nat → Nat → Nat
  | _, 0 => 0
  | i, n + 1 => if f i ≠ 0 then f i else firstIx f (i + 1) n
theorem firstIx_from (f : Nat → Nat) : ∀ (n i k : Nat), k < n → (∀ j, j < k → f (i + j) = 0) → f (i + k) ≠ 0 → firstIx f i n = f (i + k)
  | 0, i, k, h, _, _ => absurd h (Nat.not_lt_zero _)
  | n + 1, i, 0, _, _, h => by rw [firstIx]; exact if_pos h
  | n + 1, i, k + 1, h, h0, h1 => by
    have e : f i = 0 := h0 0 (by omega)
    rw [firstIx, if_neg (by omega), firstIx_from f n (i + 1) k (by omega) (fun j hj => by have := h0 (j + 1) (by omega); rw [← this]; congr 1; omega) (by rw [show i + 1 + k = i + (k + 1) by omega]; exact h1)]
    congr 1; omega
theorem firstIx_at {f : Nat → Nat} {n k : Nat} (h : k < n) (h0 : ∀ j, j < k → f j = 0) (h1 : f k ≠ 0) : firstIx f 0 n = f k := by
  have := firstIx_from f n 0 k h (fun j hj => by rw [Nat.zero_add]; exact h0 j hj) (by rw [Nat.zero_add]; exact h1)
  rwa [Nat.zero_add] at this
theorem firstIx_nothing (f : Nat → Nat) : ∀ (n i : Nat), (∀ j, j < n → f (i + j) = 0) → firstIx f i n = 0
  | 0, i, _ => rfl
  | n + 1, i, h => by
    have e : f i = 0 := h 0 (by omega)
    rw [firstIx, if_neg (by omega)]
    exact firstIx_nothing f n (i + 1) fun j hj => by rw [show i + 1 + j = i + (j + 1) by omega]; exact h (j + 1) (by omega)
theorem firstIx_none {f : Nat → Nat} {n : Nat} (h : ∀ j, j < n → f j = 0) : firstIx f 0 n = 0 := firstIx_nothing f n 0 fun j hj => by rw [Nat.zero_add]; exact h j hj
theorem firstIx_zero {f : Nat → Nat} : ∀ {n i : Nat}, firstIx f i n = 0 → ∀ j, j < n → f (i + j) = 0
  | 0, i, _, j, hj => absurd hj (Nat.not_lt_zero _)
  | n + 1, i, h, j, hj => by
    rw [firstIx] at h
    by_cases e : f i = 0
    · rw [if_neg (by omega)] at h
      cases j with
      | zero => exact e
      | succ j => have := firstIx_zero h j (by omega); rw [← this]; congr 1; omega
    · rw [if_pos e] at h; exact absurd h e
def flowsM (p : Pl) (n : Nat) : Nat := firstIx (fun i => flowM p.kind (decide (i + 1 = p.out.length)) n (p.out.getD i zeroF)) 0 p.out.length
def placeM (p : Pl) (i n : Nat) : Nat := if fieldsM p ≠ 0 then fieldsM p else if decide (p.kind = 1) ≠ decide (i = 0) then 8 else flowsM p n
def checkD (d : Df) : Nat :=
  if nameOk d.id = false then 1 else if 4096 < d.places.length then 6 else if d.places.length = 0 then 8 else firstIx (fun i => placeM (d.places.getD i zeroP) i d.places.length) 0 d.places.length
/- As bytes. -/
def nb (t : Bs) : BB := t.map fun b => BitVec.ofNat 8 b.toNat
def bn (l : BB) : Bs := l.map fun b => UInt8.ofNat b.toNat
theorem nb_len (t : Bs) : (nb t).length = t.length := by simp [nb]
theorem bn_len (t : BB) : (bn t).length = t.length := by simp [bn]
theorem bn_nb (t : Bs) : bn (nb t) = t := by
  unfold bn nb
  rw [List.map_map]
  have : ((fun b : BitVec 8 => UInt8.ofNat b.toNat) ∘ fun b : UInt8 => BitVec.ofNat 8 b.toNat) = id := by
    funext b
    have := b.toNat_lt
    simp only [Function.comp, BitVec.toNat_ofNat, id]
    rw [Nat.mod_eq_of_lt (by omega)]
    simp
  rw [this, List.map_id]
theorem nb_bn (l : BB) : nb (bn l) = l := by
  unfold bn nb
  rw [List.map_map]
  have : ((fun b : UInt8 => BitVec.ofNat 8 b.toNat) ∘ fun b : BitVec 8 => UInt8.ofNat b.toNat) = id := by
    funext b
    have := b.isLt
    apply BitVec.eq_of_toNat_eq
    simp [Function.comp]
  rw [this, List.map_id]
def textB (t : Bs) : BB := urow t.length ++ nb t
def treeB : Nat → Tr → BB
  | 0, _ => []
  | d + 1, t => byte t.kind.toNat :: ((if t.kind = 1 then urow (zz t.n) else if t.kind = 2 then textB t.name else []) ++ t.kids.flatMap (treeB d))
def maybeB (l : List Tr) : BB := byte l.length :: l.flatMap (treeB 16)
def flowB (f : Fl) : BB := urow f.to.toNat ++ maybeB f.ifs
def placeB (p : Pl) : BB := byte p.kind.toNat :: (textB p.name ++ (urow p.n.toNat ++ (maybeB p.arg ++ (urow p.out.length ++ p.out.flatMap flowB))))
def defB (d : Df) : BB := textB d.id ++ (urow d.places.length ++ d.places.flatMap placeB)
/- From bytes. -/
abbrev Rds (α : Type) := BB → Except Nat (α × BB)
def codeN (r : V.Pack.Res) : Nat := match r with
  | .inl _ => 0
  | .inr true => 2
  | .inr false => 5
def bindE {α β : Type} (f : Rds α) (g : α → Rds β) : Rds β := fun l => match f l with
  | .ok (a, r) => g a r
  | .error e => .error e
def pureE {α : Type} (a : α) : Rds α := fun l => .ok (a, l)
def failE {α : Type} (e : Nat) : Rds α := fun _ => .error e
def byteE : Rds Nat := fun l => match l with
  | [] => .error 5
  | b :: r => .ok (b.toNat, r)
def uE : Rds Nat := fun l => match rd 0 l with
  | .inl k => .ok (V.Pack.val (l.take k), l.drop k)
  | .inr r => .error (codeN (.inr r))
def uintE (most : Nat) : Rds Nat := bindE uE fun n => if most < n then failE 6 else pureE n
def intE : Rds Int := bindE uE fun n => pureE (unzz n)
def takeE (m : Nat) : Rds BB := fun l => if m ≤ l.length then .ok (l.take m, l.drop m) else .error 5
def textE : Rds BB := bindE uE takeE
def manyE {α : Type} (f : Rds α) : Nat → Rds (List α)
  | 0 => pureE []
  | n + 1 => bindE (manyE f n) fun xs => bindE f fun x => pureE (xs ++ [x])
def treeE : Nat → Rds Tr
  | 0 => failE 6
  | d + 1 => bindE byteE fun b => if b < 1 ∨ 14 < b then failE 3
    else if b = 1 then bindE intE fun n => pureE ⟨1, n, [], []⟩
    else if b = 2 then bindE textE fun s => pureE ⟨2, 0, bn s, []⟩
    else bindE (manyE (treeE d) (kidsK b)) fun ks => pureE ⟨b, 0, [], ks⟩
def exprE : Rds Tr := bindE (treeE 16) fun t => if checkM 16 t ≠ 0 then failE (checkM 16 t) else pureE t
def maybeE : Rds (List Tr) := bindE byteE fun b => if b = 0 then pureE [] else if b = 1 then bindE exprE fun t => pureE [t] else failE 3
def flowE : Rds Fl := bindE (uintE 4096) fun to => bindE maybeE fun l => pureE ⟨to, l⟩
def placeE : Rds Pl := bindE byteE fun k => bindE textE fun s => bindE (uintE 9) fun n => bindE maybeE fun a => bindE (uintE 16) fun c => bindE (manyE flowE c) fun o => pureE ⟨k, bn s, n, a, o⟩
def defE : Rds Df := bindE textE fun s => bindE (uintE 4096) fun c => bindE (manyE placeE c) fun ps => pureE ⟨bn s, ps⟩
/-- The definition that bytes are, or the error. -/
def readE (l : BB) : Except Nat Df := match defE l with
  | .error e => .error e
  | .ok (d, r) => if r ≠ [] then .error 3 else if checkD d ≠ 0 then .error (checkD d) else .ok d
theorem bind_ok {α β : Type} {f : Rds α} {g : α → Rds β} {l r : BB} {y : β} (h : bindE f g l = .ok (y, r)) : ∃ a m, f l = .ok (a, m) ∧ g a m = .ok (y, r) := by
  unfold bindE at h
  split at h
  · rename_i a m e; exact ⟨a, m, e, h⟩
  · cases h
theorem bind_err {α β : Type} {f : Rds α} {g : α → Rds β} {l : BB} {e : Nat} (h : bindE f g l = .error e) : f l = .error e ∨ ∃ a m, f l = .ok (a, m) ∧ g a m = .error e := by
  unfold bindE at h
  split at h
  · rename_i a m q; exact .inr ⟨a, m, q, h⟩
  · rename_i q q2; cases h; exact .inl q2
/- More behind plays no part. -/
def Ext {α : Type} (f : Rds α) : Prop := ∀ l x r T, f l = .ok (x, r) → f (l ++ T) = .ok (x, r ++ T)
theorem Ext.bind {α β : Type} {f : Rds α} {g : α → Rds β} (hf : Ext f) (hg : ∀ a, Ext (g a)) : Ext (bindE f g) := fun l x r T h => by
  obtain ⟨a, m, h1, h2⟩ := bind_ok h
  show (match f (l ++ T) with | .ok (a, r) => g a r | .error e => .error e) = _
  rw [hf l a m T h1]
  exact hg a m x r T h2
theorem Ext.pure {α : Type} (a : α) : Ext (pureE a) := fun l x r T h => by cases h; rfl
theorem Ext.fail {α : Type} (e : Nat) : Ext (failE e : Rds α) := fun l x r T h => by cases h
theorem Ext.ite {α : Type} {c : Prop} [Decidable c] {f g : Rds α} (hf : Ext f) (hg : Ext g) : Ext (if c then f else g) := by split <;> assumption
theorem Ext.byte : Ext byteE := fun l x r T h => by
  cases l with
  | nil => cases h
  | cons b l => cases h; rfl
theorem uE_ok {l r : BB} {n : Nat} (h : uE l = .ok (n, r)) : l = urow n ++ r ∧ n < 18446744073709551616 := by
  unfold uE at h
  rcases hk : rd 0 l with k | q
  · rw [hk] at h
    simp only [Except.ok.injEq, Prod.mk.injEq] at h
    obtain ⟨rfl, rfl⟩ := h
    obtain ⟨a1, a2, a3, a4, a5⟩ := rd0_ok hk
    exact ⟨by rw [a4, List.take_append_drop], a5⟩
  · rw [hk] at h; cases h
theorem uE_row {n : Nat} (T : BB) (h : n < 18446744073709551616) : uE (urow n ++ T) = .ok (n, T) := by
  unfold uE
  rw [rd0_urow T h]
  simp only
  rw [List.take_left, List.drop_left, val_urow]
theorem Ext.u : Ext uE := fun l x r T h => by
  obtain ⟨rfl, h2⟩ := uE_ok h
  rw [List.append_assoc, uE_row _ h2]
theorem Ext.take (m : Nat) : Ext (takeE m) := fun l x r T h => by
  unfold takeE at h ⊢
  split at h
  · rename_i hm
    cases h
    rw [if_pos (by rw [List.length_append]; omega), List.take_append_of_le_length hm, List.drop_append_of_le_length hm]
  · cases h
theorem Ext.uint (m : Nat) : Ext (uintE m) := Ext.u.bind fun n => (Ext.fail 6).ite (Ext.pure n)
theorem Ext.int : Ext intE := Ext.u.bind fun n => Ext.pure _
theorem Ext.text : Ext textE := Ext.u.bind Ext.take
theorem Ext.many {α : Type} {f : Rds α} (h : Ext f) : ∀ n, Ext (manyE f n)
  | 0 => Ext.pure _
  | n + 1 => (Ext.many h n).bind fun xs => h.bind fun x => Ext.pure _
theorem Ext.tree : ∀ d, Ext (treeE d)
  | 0 => Ext.fail 6
  | d + 1 => Ext.byte.bind fun b => (Ext.fail 3).ite (Ext.ite (Ext.int.bind fun n => Ext.pure _) (Ext.ite (Ext.text.bind fun s => Ext.pure _) ((Ext.many (Ext.tree d) _).bind fun ks => Ext.pure _)))
theorem Ext.expr : Ext exprE := (Ext.tree 16).bind fun t => Ext.ite (Ext.fail _) (Ext.pure _)
theorem Ext.maybe : Ext maybeE := Ext.byte.bind fun b => Ext.ite (Ext.pure _) (Ext.ite (Ext.expr.bind fun t => Ext.pure _) (Ext.fail 3))
theorem Ext.flow : Ext flowE := (Ext.uint 4096).bind fun to => Ext.maybe.bind fun l => Ext.pure _
theorem Ext.place : Ext placeE := Ext.byte.bind fun k => Ext.text.bind fun s => (Ext.uint 9).bind fun n => Ext.maybe.bind fun a => (Ext.uint 16).bind fun c => (Ext.many Ext.flow c).bind fun o => Ext.pure _
theorem Ext.df : Ext defE := Ext.text.bind fun s => (Ext.uint 4096).bind fun c => (Ext.many Ext.place c).bind fun ps => Ext.pure _
/- Errors are none but errors. -/
def NZ {α : Type} (f : Rds α) : Prop := ∀ l e, f l = .error e → e ≠ 0
theorem NZ.bind {α β : Type} {f : Rds α} {g : α → Rds β} (hf : NZ f) (hg : ∀ a, NZ (g a)) : NZ (bindE f g) := fun l e h => by
  rcases bind_err h with h | ⟨a, m, h1, h2⟩
  · exact hf l e h
  · exact hg a m e h2
theorem NZ.pure {α : Type} (a : α) : NZ (pureE a) := fun l e h => by cases h
theorem NZ.fail {α : Type} {e : Nat} (h : e ≠ 0) : NZ (failE e : Rds α) := fun l x q => by cases q; exact h
theorem NZ.ite {α : Type} {c : Prop} [Decidable c] {f g : Rds α} (hf : c → NZ f) (hg : NZ g) : NZ (if c then f else g) := by
  split
  · exact hf ‹_›
  · exact hg
theorem NZ.byte : NZ byteE := fun l e h => by
  cases l with
  | nil => cases h; decide
  | cons b l => cases h
theorem NZ.u : NZ uE := fun l e h => by
  unfold uE at h
  rcases hk : rd 0 l with k | q
  · rw [hk] at h; cases h
  · rw [hk] at h; cases h; cases q <;> decide
theorem NZ.take (m : Nat) : NZ (takeE m) := fun l e h => by
  unfold takeE at h
  split at h
  · cases h
  · cases h; decide
theorem NZ.uint (m : Nat) : NZ (uintE m) := NZ.u.bind fun n => NZ.ite (fun _ => NZ.fail (by decide)) (NZ.pure n)
theorem NZ.int : NZ intE := NZ.u.bind fun n => NZ.pure _
theorem NZ.text : NZ textE := NZ.u.bind NZ.take
theorem NZ.many {α : Type} {f : Rds α} (h : NZ f) : ∀ n, NZ (manyE f n)
  | 0 => NZ.pure _
  | n + 1 => (NZ.many h n).bind fun xs => h.bind fun x => NZ.pure _
theorem NZ.tree : ∀ d, NZ (treeE d)
  | 0 => NZ.fail (by decide)
  | d + 1 => NZ.byte.bind fun b => NZ.ite (fun _ => NZ.fail (by decide)) (NZ.ite (fun _ => NZ.int.bind fun n => NZ.pure _) (NZ.ite (fun _ => NZ.text.bind fun s => NZ.pure _) ((NZ.many (NZ.tree d) _).bind fun ks => NZ.pure _)))
theorem NZ.expr : NZ exprE := (NZ.tree 16).bind fun t => NZ.ite (fun h => NZ.fail h) (NZ.pure _)
theorem NZ.maybe : NZ maybeE := NZ.byte.bind fun b => NZ.ite (fun _ => NZ.pure _) (NZ.ite (fun _ => NZ.expr.bind fun t => NZ.pure _) (NZ.fail (by decide)))
theorem NZ.flow : NZ flowE := (NZ.uint 4096).bind fun to => NZ.maybe.bind fun l => NZ.pure _
theorem NZ.place : NZ placeE := NZ.byte.bind fun k => NZ.text.bind fun s => (NZ.uint 9).bind fun n => NZ.maybe.bind fun a => (NZ.uint 16).bind fun c => (NZ.many NZ.flow c).bind fun o => NZ.pure _
theorem NZ.df : NZ defE := NZ.text.bind fun s => (NZ.uint 4096).bind fun c => (NZ.many NZ.place c).bind fun ps => NZ.pure _
/- Readers that keep the first error. -/
structure Sst where
  err : Nat
  rest : BB
/-- What a reader that keeps the first error does. -/
def After {α : Type} (f : Rds α) (s : Sst) (x : α) (s' : Sst) : Prop :=
  if s.err ≠ 0 then s' = s else match f s.rest with
    | .ok (a, r) => x = a ∧ s' = ⟨0, r⟩
    | .error e => e ≠ 0 ∧ s' = ⟨e, []⟩
theorem After.bind {α β : Type} {f : Rds α} {g : α → Rds β} {s s1 s2 : Sst} {x : α} {y : β} (h1 : After f s x s1) (h2 : After (g x) s1 y s2) : After (bindE f g) s y s2 := by
  unfold After at *
  by_cases he : s.err ≠ 0
  · rw [if_pos he] at h1 ⊢
    subst h1
    rwa [if_pos he] at h2
  · rw [if_neg he] at h1 ⊢
    unfold bindE
    cases hf : f s.rest with
    | ok ar =>
      obtain ⟨a, r⟩ := ar
      rw [hf] at h1
      obtain ⟨rfl, rfl⟩ := h1
      rw [if_neg (by simp)] at h2
      exact h2
    | error e =>
      rw [hf] at h1
      obtain ⟨h3, rfl⟩ := h1
      rw [if_pos h3] at h2
      exact ⟨h3, h2⟩
theorem After.pure {α : Type} (x : α) (s : Sst) : After (pureE x) s x s := by
  unfold After
  split
  · rfl
  · rename_i h
    obtain ⟨e, l⟩ := s
    have : e = 0 := by simpa using h
    subst this
    exact ⟨rfl, rfl⟩
/-- The first error is kept. -/
def refuseS (e : Nat) (s : Sst) : Sst := if e ≠ 0 ∧ s.err = 0 then ⟨e, []⟩ else s
theorem After.fail {α : Type} {e : Nat} (he : e ≠ 0) (x : α) (s : Sst) : After (failE e) s x (refuseS e s) := by
  unfold After refuseS
  by_cases h : s.err ≠ 0
  · rw [if_pos h, if_neg (by rintro ⟨_, h2⟩; exact h h2)]
  · rw [if_neg h, if_pos ⟨he, by simpa using h⟩]
    exact ⟨he, rfl⟩
end Go.Proofs.Ytjafjheffbbkmaa
