/-
  Definitions as bytes, there and back: plain mathematics.
-/
import Derived.Test.YtjafjheffbbkmaaDfM
namespace Go.Proofs.Ytjafjheffbbkmaa
set_option linter.unusedVariables false
open V.Pack (byte urow zz unzz rd rd0_ok rd0_urow urow_len unzz_zz zz_unzz zz_lt byte_nat val_urow)

/-- What is read from such bytes. -/
def Wr {α : Type} (f : Rds α) (x : α) (bs : BB) : Prop := ∀ T, f (bs ++ T) = .ok (x, T)
theorem Wr.bind {α β : Type} {f : Rds α} {g : α → Rds β} {a : α} {y : β} {bs cs : BB} (h1 : Wr f a bs) (h2 : Wr (g a) y cs) : Wr (bindE f g) y (bs ++ cs) := fun T => by
  unfold bindE
  rw [List.append_assoc, h1]
  exact h2 T
theorem Wr.pure {α : Type} (a : α) : Wr (pureE a) a [] := fun T => rfl
theorem Wr.then {α β : Type} {f : Rds α} {a : α} {bs : BB} (h : Wr f a bs) (g : α → β) : Wr (bindE f fun x => pureE (g x)) (g a) bs := by
  have := h.bind (g := fun x => pureE (g x)) (Wr.pure (g a))
  rwa [List.append_nil] at this
theorem Wr.bit8 (b : BitVec 8) : Wr byteE b.toNat [b] := fun T => rfl
theorem Wr.u {n : Nat} (h : n < 18446744073709551616) : Wr uE n (urow n) := fun T => uE_row T h
theorem Wr.uint {m n : Nat} (h : n ≤ m) (h2 : n < 18446744073709551616) : Wr (uintE m) n (urow n) := by
  have := (Wr.u h2).bind (g := fun n => if m < n then failE 6 else pureE n) (y := n) (cs := []) (by rw [if_neg (by omega)]; exact Wr.pure n)
  rwa [List.append_nil] at this
theorem Wr.int {n : Int} (h : InR n) : Wr intE n (urow (zz n)) := by
  have := (Wr.u (zz_lt h.1 h.2)).then (fun n => unzz n)
  rwa [unzz_zz] at this
theorem Wr.take (s : BB) : Wr (takeE s.length) s s := fun T => by
  unfold takeE
  rw [if_pos (by simp), List.take_left, List.drop_left]
theorem Wr.text {s : BB} (h : s.length < 18446744073709551616) : Wr textE s (urow s.length ++ s) := (Wr.u h).bind (Wr.take s)
theorem Wr.many {α : Type} {f : Rds α} {B : α → BB} {l : List α} (h : ∀ x ∈ l, Wr f x (B x)) : ∀ n, n ≤ l.length → Wr (manyE f n) (l.take n) ((l.take n).flatMap B)
  | 0, _ => by show Wr (pureE []) _ _; simpa using Wr.pure ([] : List α)
  | n + 1, hn => by
    have hlt : n < l.length := by omega
    have h1 := Wr.many h n (by omega)
    have h2 := h1.bind (g := fun xs => bindE f fun x => pureE (xs ++ [x])) ((h l[n] (List.getElem_mem hlt)).then fun x => l.take n ++ [x])
    rw [List.take_succ_eq_append_getElem hlt, List.flatMap_append, List.flatMap_cons, List.flatMap_nil, List.append_nil]
    exact h2
theorem Wr.all {α : Type} {f : Rds α} {B : α → BB} {l : List α} (h : ∀ x ∈ l, Wr f x (B x)) : Wr (manyE f l.length) l (l.flatMap B) := by
  have := Wr.many h l.length (Nat.le_refl _)
  rwa [List.take_length] at this
def NumsIn : Nat → Tr → Prop
  | 0, _ => True
  | d + 1, t => InR t.n ∧ ∀ k ∈ t.kids, NumsIn d k
theorem nameOk_len {t : Bs} (h1 : nameOk t = true) : t.length ≤ 32 := by
  unfold nameOk at h1
  split at h1
  · cases h1
  · simp only [Bool.and_eq_true, decide_eq_true_eq] at h1
    exact h1.2
theorem name_short {d : Nat} {t : Tr} (h : checkM (d + 1) t = 0) : t.name.length ≤ 32 := by
  have hs := shape h
  by_cases e : t.kind = 2
  · have hf := (check_fits h).1
    unfold fitsM at hf
    simp only [if_pos e] at hf
    refine nameOk_len ?_
    split at hf
    · cases hf
    · split at hf
      · cases hf
      · simp only [Bool.and_eq_true] at hf
        exact hf.1.1
  · rw [hs.name e]; exact Nat.zero_le _
theorem textB_nb (t : Bs) : textB t = urow (nb t).length ++ nb t := by unfold textB; rw [nb_len]
theorem Wr.name {t : Bs} (h : t.length ≤ 32) : Wr textE (nb t) (textB t) := by rw [textB_nb]; exact Wr.text (by rw [nb_len]; omega)
theorem Wr.tree : ∀ (d : Nat) (t : Tr), checkM d t = 0 → NumsIn d t → Wr (treeE d) t (treeB d t)
  | 0, t, h, _ => by cases h
  | d + 1, t, h, hn => by
    have hs := shape h
    have hnm := name_short h
    have lo := hs.lo; have hi := hs.hi
    obtain ⟨k, n, nm, ks⟩ := t
    simp only at lo hi hnm
    obtain ⟨m, rfl⟩ : ∃ m : Nat, k = (m : Int) := ⟨k.toNat, by omega⟩
    have hb : (byte m).toNat = m := byte_nat (by omega)
    have hw := Wr.bit8 (byte m)
    rw [hb] at hw
    show Wr (treeE (d + 1)) (⟨(m : Int), n, nm, ks⟩ : Tr) ([byte ((m : Int)).toNat] ++ ((if (m : Int) = 1 then urow (zz n) else if (m : Int) = 2 then textB nm else []) ++ ks.flatMap (treeB d)))
    rw [Int.toNat_natCast]
    refine hw.bind ?_
    rw [if_neg (by omega)]
    by_cases e1 : m = 1
    · subst e1
      rw [if_pos rfl, if_pos (by decide)]
      have hk : ks = [] := by
        rcases hs.kids with ⟨_, q⟩ | ⟨q, _⟩ | ⟨q, _⟩
        · exact q
        · simp at q
        · simp at q
      have hnm0 : nm = [] := hs.name (by simp)
      subst hk; subst hnm0
      simp only [List.flatMap_nil, List.append_nil]
      exact (Wr.int hn.1).then fun n => (⟨1, n, [], []⟩ : Tr)
    · have e1' : ¬ (m : Int) = 1 := by omega
      rw [if_neg e1, if_neg e1']
      have hn0 : n = 0 := hs.num0 e1'
      subst hn0
      by_cases e2 : m = 2
      · subst e2
        rw [if_pos rfl, if_pos (by decide)]
        have hk : ks = [] := by
          rcases hs.kids with ⟨_, q⟩ | ⟨q, _⟩ | ⟨q, _⟩
          · exact q
          · simp at q
          · simp at q
        subst hk
        simp only [List.flatMap_nil, List.append_nil]
        have := (Wr.name hnm).then fun s => (⟨2, 0, bn s, []⟩ : Tr)
        rwa [bn_nb] at this
      · have e2' : ¬ (m : Int) = 2 := by omega
        rw [if_neg e2, if_neg e2']
        have hnm0 : nm = [] := hs.name e2'
        subst hnm0
        rw [List.nil_append]
        have hl : ks.length = kidsK m := by
          have hf := (check_fits h).1
          unfold fitsM at hf
          split at hf
          · cases hf
          · rename_i q
            simp only at q
            exact Classical.byContradiction fun c => q (.inr (.inr c))
        rw [← hl]
        exact (Wr.all fun x hx => Wr.tree d x ((check_fits h).2 x hx) (hn.2 x hx)).then fun ks => (⟨m, 0, [], ks⟩ : Tr)
theorem typed_check {b : Bool} {t : Tr} (h : typedM b t = 0) : checkM 16 t = 0 := by
  unfold typedM truthM at h
  by_cases e : checkM 16 t = 0
  · exact e
  · simp [e] at h
theorem Wr.expr {t : Tr} (h : checkM 16 t = 0) (hn : NumsIn 16 t) : Wr exprE t (treeB 16 t) := by
  have := (Wr.tree 16 t h hn).bind (g := fun t => if checkM 16 t ≠ 0 then failE (checkM 16 t) else pureE t) (y := t) (cs := []) (by rw [if_neg (by simp [h])]; exact Wr.pure t)
  rwa [List.append_nil] at this
theorem Wr.maybe {l : List Tr} (hl : l.length ≤ 1) (h : ∀ t ∈ l, checkM 16 t = 0 ∧ NumsIn 16 t) : Wr maybeE l (maybeB l) := by
  match l, hl, h with
  | [], _, _ =>
    have := (Wr.bit8 (byte 0)).bind (g := fun b => if b = 0 then pureE [] else if b = 1 then bindE exprE fun t => pureE [t] else failE 3) (y := ([] : List Tr)) (cs := []) (by rw [if_pos (by decide)]; exact Wr.pure _)
    exact this
  | [t], _, h =>
    have := (Wr.bit8 (byte 1)).bind (g := fun b => if b = 0 then pureE [] else if b = 1 then bindE exprE fun t => pureE [t] else failE 3) (y := [t]) (cs := treeB 16 t) (by
      rw [if_neg (by decide), if_pos (by decide)]
      exact (Wr.expr (h t (by simp)).1 (h t (by simp)).2).then fun t => [t])
    have e : maybeB [t] = [byte 1] ++ treeB 16 t := by simp [maybeB]
    rw [e]; exact this
/- Numbers that the machine has. -/
def FNums (f : Fl) : Prop := InR f.to ∧ ∀ t ∈ f.ifs, NumsIn 16 t
def PNums (p : Pl) : Prop := (∀ t ∈ p.arg, NumsIn 16 t) ∧ ∀ f ∈ p.out, FNums f
def DNums (d : Df) : Prop := ∀ p ∈ d.places, PNums p
theorem flow_facts {k : Int} {last : Bool} {n : Nat} {f : Fl} (h : flowM k last n f = 0) : 1 ≤ f.to ∧ f.to < n ∧ f.ifs.length ≤ 1 ∧ ∀ t ∈ f.ifs, checkM 16 t = 0 := by
  unfold flowM at h
  split at h
  · omega
  · rename_i h1
    split at h
    · omega
    · rename_i h2
      refine ⟨by omega, by omega, ?_, fun t ht => typed_check (firstBad_zero h t ht)⟩
      unfold countM at h2
      split at h2
      · simp at h2; simp [h2]
      · split at h2
        · simpa using h2
        · simp at h2; omega
theorem Wr.flow {k : Int} {last : Bool} {n : Nat} {f : Fl} (hn : n ≤ 4096) (h : flowM k last n f = 0) (hN : FNums f) : Wr flowE f (flowB f) := by
  obtain ⟨h1, h2, h3, h4⟩ := flow_facts h
  obtain ⟨to, l⟩ := f
  simp only at h1 h2 h3 h4
  obtain ⟨m, rfl⟩ : ∃ m : Nat, to = (m : Int) := ⟨to.toNat, by omega⟩
  refine (Wr.uint (m := 4096) (n := m) (by omega) (by omega)).bind ?_
  exact (Wr.maybe h3 fun t ht => ⟨h4 t ht, hN.2 t ht⟩).then fun l => (⟨(m : Int), l⟩ : Fl)
structure PFacts (p : Pl) (n : Nat) : Prop where
  lo : 1 ≤ p.kind
  hi : p.kind ≤ 9
  name : p.name.length ≤ 32
  n0 : 0 ≤ p.n
  n9 : p.n ≤ 9
  arg1 : p.arg.length ≤ 1
  arg : ∀ t ∈ p.arg, checkM 16 t = 0
  out16 : p.out.length ≤ 16
  out : ∀ i, i < p.out.length → flowM p.kind (decide (i + 1 = p.out.length)) n (p.out.getD i zeroF) = 0
theorem place_facts {p : Pl} {i n : Nat} (h : placeM p i n = 0) : PFacts p n := by
  unfold placeM at h
  split at h
  · rename_i q; exact absurd h q
  · rename_i h0
    split at h
    · omega
    · have hf : fieldsM p = 0 := by omega
      unfold fieldsM at hf
      split at hf
      · omega
      · rename_i f1
        split at hf
        · omega
        · rename_i f2
          split at hf
          · omega
          · rename_i f3
            split at hf
            · omega
            · rename_i f4
              split at hf
              · omega
              · rename_i f5
                refine ⟨by omega, by omega, ?_, by omega, ?_, ?_, fun t ht => typed_check (firstBad_zero hf t ht), ?_, fun i hi => ?_⟩
                · unfold nameFitsM at f2
                  split at f2
                  · simp only [Bool.not_eq_false, Bool.and_eq_true] at f2
                    exact nameOk_len f2.1
                  · simp only [Bool.not_eq_false, decide_eq_true_eq] at f2
                    rw [f2]; exact Nat.zero_le _
                · unfold triesK at f3; split at f3 <;> omega
                · have : p.arg.length = argsK p.kind := by simpa using f4
                  rw [this]; unfold argsK; split <;> omega
                · have : mostK p.kind ≤ 16 := by unfold mostK; repeat' split
                                                 all_goals omega
                  omega
                · have := firstIx_zero h i hi
                  rwa [Nat.zero_add] at this
theorem getD_memF {l : List Fl} {i : Nat} (h : i < l.length) : l.getD i zeroF = l[i] := by rw [List.getD_eq_getElem?_getD, List.getElem?_eq_getElem h]; rfl
theorem getD_memP {l : List Pl} {i : Nat} (h : i < l.length) : l.getD i zeroP = l[i] := by rw [List.getD_eq_getElem?_getD, List.getElem?_eq_getElem h]; rfl
theorem PFacts.flow {p : Pl} {n : Nat} (h : PFacts p n) : ∀ f ∈ p.out, ∃ last, flowM p.kind last n f = 0 := fun f hf => by
  obtain ⟨i, hi, rfl⟩ := List.getElem_of_mem hf
  have := h.out i hi
  rw [getD_memF hi] at this
  exact ⟨_, this⟩
theorem Wr.place {p : Pl} {n : Nat} (hn : n ≤ 4096) (h : PFacts p n) (hN : PNums p) : Wr placeE p (placeB p) := by
  have hflow := h.flow
  obtain ⟨lo, hi, nm, n0, n9, a1, ar, o16, ou⟩ := h
  obtain ⟨k, s, m, ar', ou'⟩ := p
  simp only at *
  obtain ⟨k, rfl⟩ : ∃ j : Nat, k = (j : Int) := ⟨k.toNat, by omega⟩
  obtain ⟨m, rfl⟩ : ∃ j : Nat, m = (j : Int) := ⟨m.toNat, by omega⟩
  have hb : (byte k).toNat = k := byte_nat (by omega)
  have hw := Wr.bit8 (byte k)
  rw [hb] at hw
  show Wr placeE _ ([byte ((k : Int)).toNat] ++ _)
  rw [Int.toNat_natCast]
  refine hw.bind ?_
  refine (Wr.name nm).bind ?_
  refine (Wr.uint (m := 9) (n := m) (by omega) (by omega)).bind ?_
  refine (Wr.maybe a1 fun t ht => ⟨ar t ht, hN.1 t ht⟩).bind ?_
  refine (Wr.uint (m := 16) (n := ou'.length) o16 (by omega)).bind ?_
  have := (Wr.all (f := flowE) (B := flowB) (l := ou') fun f hf => by obtain ⟨last, q⟩ := hflow f hf; exact Wr.flow hn q (hN.2 f hf)).then fun o => (⟨(k : Int), bn (nb s), (m : Int), ar', o⟩ : Pl)
  rw [bn_nb] at this
  rw [bn_nb]
  exact this
structure DFacts (d : Df) : Prop where
  id : d.id.length ≤ 32
  len : d.places.length ≤ 4096
  pos : 0 < d.places.length
  place : ∀ p ∈ d.places, PFacts p d.places.length
theorem def_facts {d : Df} (h : checkD d = 0) : DFacts d := by
  unfold checkD at h
  split at h
  · omega
  · rename_i h1
    split at h
    · omega
    · rename_i h2
      split at h
      · omega
      · refine ⟨nameOk_len (by simpa using h1), by omega, by omega, fun p hp => ?_⟩
        obtain ⟨i, hi, rfl⟩ := List.getElem_of_mem hp
        have := firstIx_zero h i hi
        rw [Nat.zero_add, getD_memP hi] at this
        exact place_facts this
theorem Wr.df {d : Df} (h : checkD d = 0) (hN : DNums d) : Wr defE d (defB d) := by
  obtain ⟨i1, i2, i3, i4⟩ := def_facts h
  refine (Wr.name i1).bind ?_
  refine (Wr.uint (m := 4096) (n := d.places.length) i2 (by omega)).bind ?_
  have := (Wr.all (f := placeE) (B := placeB) (l := d.places) fun p hp => Wr.place i2 (i4 p hp) (hN p hp)).then fun ps => (⟨bn (nb d.id), ps⟩ : Df)
  rw [bn_nb] at this
  rw [bn_nb]
  exact this
theorem read_back {d : Df} (h : checkD d = 0) (hN : DNums d) : readE (defB d) = .ok d := by
  have := Wr.df h hN []
  rw [List.append_nil] at this
  unfold readE
  rw [this]
  simp [h]
theorem read_more {d : Df} (h : checkD d = 0) (hN : DNums d) {T : BB} (hT : T ≠ []) : readE (defB d ++ T) = .error 3 := by
  unfold readE
  rw [Wr.df h hN T]
  simp [hT]
theorem read_nz {l : BB} {e : Nat} (h : readE l = .error e) : e ≠ 0 := by
  unfold readE at h
  cases hd : defE l with
  | error c => rw [hd] at h; cases h; exact NZ.df l _ hd
  | ok dr =>
    obtain ⟨d, r⟩ := dr
    rw [hd] at h
    simp only at h
    split at h
    · cases h; decide
    · split at h
      · rename_i q; cases h; exact q
      · cases h
theorem read_cut {d : Df} (h : checkD d = 0) (hN : DNums d) {k : Nat} (hk : k < (defB d).length) : ∃ e, readE ((defB d).take k) = .error e ∧ e ≠ 0 := by
  cases hr : readE ((defB d).take k) with
  | error e => exact ⟨e, rfl, read_nz hr⟩
  | ok d' =>
    exfalso
    unfold readE at hr
    cases hd : defE ((defB d).take k) with
    | error c => rw [hd] at hr; cases hr
    | ok dr =>
      obtain ⟨d2, r⟩ := dr
      rw [hd] at hr
      simp only at hr
      split at hr
      · cases hr
      · rename_i q
        have hr0 : r = [] := by simpa using q
        subst hr0
        have h1 := Ext.df _ _ _ ((defB d).drop k) hd
        rw [List.take_append_drop] at h1
        have h2 := Wr.df h hN []
        rw [List.append_nil, h1] at h2
        simp only [List.nil_append, Except.ok.injEq, Prod.mk.injEq] at h2
        have := congrArg List.length h2.2
        rw [List.length_drop] at this
        simp at this
        omega
/- What is read was written in just that way. -/
theorem byteE_once {l r : BB} {n : Nat} (h : byteE l = .ok (n, r)) : l = byte n :: r ∧ n < 256 := by
  cases l with
  | nil => cases h
  | cons b l =>
    cases h
    refine ⟨?_, b.isLt⟩
    rw [show byte b.toNat = b from by simp [byte]]
theorem uintE_once {m : Nat} {l r : BB} {n : Nat} (h : uintE m l = .ok (n, r)) : l = urow n ++ r ∧ n ≤ m ∧ n < 18446744073709551616 := by
  obtain ⟨a, q, h1, h2⟩ := bind_ok h
  split at h2
  · cases h2
  · rename_i c
    cases h2
    obtain ⟨e, e2⟩ := uE_ok h1
    exact ⟨e, by omega, e2⟩
theorem textE_once {l r s : BB} (h : textE l = .ok (s, r)) : l = textB (bn s) ++ r ∧ s.length < 18446744073709551616 := by
  obtain ⟨a, q, h1, h2⟩ := bind_ok h
  unfold takeE at h2
  split at h2
  · rename_i c
    cases h2
    obtain ⟨e, e2⟩ := uE_ok h1
    have hl : (q.take a).length = a := by rw [List.length_take]; omega
    refine ⟨?_, by omega⟩
    unfold textB
    rw [nb_bn, bn_len, hl, List.append_assoc, List.take_append_drop, ← e]
  · cases h2
theorem many_once {α : Type} {f : Rds α} {B : α → BB} (h : ∀ l x r, f l = .ok (x, r) → l = B x ++ r) : ∀ (n : Nat) (l r : BB) (xs : List α), manyE f n l = .ok (xs, r) → l = xs.flatMap B ++ r ∧ xs.length = n
  | 0, l, r, xs, q => by cases q; simp
  | n + 1, l, r, xs, q => by
    obtain ⟨ys, m, h1, h2⟩ := bind_ok q
    obtain ⟨x, m2, h3, h4⟩ := bind_ok h2
    cases h4
    obtain ⟨e1, e2⟩ := many_once h n _ _ _ h1
    have e3 := h _ _ _ h3
    refine ⟨?_, by simp [e2]⟩
    rw [e1, e3]; simp
theorem tree_once : ∀ (d : Nat) (l r : BB) (t : Tr), treeE d l = .ok (t, r) → l = treeB d t ++ r
  | 0, l, r, t, h => by cases h
  | d + 1, l, r, t, h => by
    obtain ⟨b, m, h1, h2⟩ := bind_ok h
    obtain ⟨e1, hb⟩ := byteE_once h1
    subst e1
    split at h2
    · cases h2
    · rename_i hr
      split at h2
      · rename_i e; subst e
        obtain ⟨n, m2, h3, h4⟩ := bind_ok h2
        cases h4
        obtain ⟨u, m3, h5, h6⟩ := bind_ok h3
        cases h6
        obtain ⟨e2, _⟩ := uE_ok h5
        subst e2
        show _ = byte 1 :: ((if (1 : Int) = 1 then urow (zz (unzz u)) else _) ++ []) ++ _
        rw [if_pos rfl, zz_unzz]; simp
      · rename_i n1
        split at h2
        · rename_i e; subst e
          obtain ⟨s, m2, h3, h4⟩ := bind_ok h2
          cases h4
          obtain ⟨e2, _⟩ := textE_once h3
          subst e2
          show _ = byte 2 :: ((if (2 : Int) = 1 then _ else if (2 : Int) = 2 then textB (bn s) else []) ++ []) ++ _
          rw [if_neg (by decide), if_pos rfl]; simp
        · rename_i n2
          obtain ⟨ks, m2, h3, h4⟩ := bind_ok h2
          cases h4
          obtain ⟨e2, _⟩ := many_once (B := treeB d) (fun l x r q => tree_once d l r x q) _ _ _ _ h3
          subst e2
          show _ = byte ((b : Int)).toNat :: ((if (b : Int) = 1 then _ else if (b : Int) = 2 then _ else []) ++ _) ++ _
          rw [if_neg (by omega), if_neg (by omega), Int.toNat_natCast]; simp
theorem expr_once {l r : BB} {t : Tr} (h : exprE l = .ok (t, r)) : l = treeB 16 t ++ r ∧ checkM 16 t = 0 := by
  obtain ⟨a, m, h1, h2⟩ := bind_ok h
  split at h2
  · cases h2
  · rename_i q
    cases h2
    exact ⟨tree_once 16 _ _ _ h1, by simpa using q⟩
theorem maybe_once {l r : BB} {ts : List Tr} (h : maybeE l = .ok (ts, r)) : l = maybeB ts ++ r := by
  obtain ⟨b, m, h1, h2⟩ := bind_ok h
  obtain ⟨e1, _⟩ := byteE_once h1
  subst e1
  split at h2
  · rename_i e; subst e; cases h2; rfl
  · split at h2
    · rename_i e; subst e
      obtain ⟨t, m2, h3, h4⟩ := bind_ok h2
      cases h4
      obtain ⟨e2, _⟩ := expr_once h3
      subst e2
      show _ = byte 1 :: ([t].flatMap (treeB 16)) ++ _
      simp
    · cases h2
theorem flow_once {l r : BB} {f : Fl} (h : flowE l = .ok (f, r)) : l = flowB f ++ r := by
  obtain ⟨to, m, h1, h2⟩ := bind_ok h
  obtain ⟨ts, m2, h3, h4⟩ := bind_ok h2
  cases h4
  obtain ⟨e1, _⟩ := uintE_once h1
  have e2 := maybe_once h3
  subst e1; subst e2
  show _ = urow ((to : Int)).toNat ++ _ ++ _
  rw [Int.toNat_natCast]; simp
theorem place_once {l r : BB} {p : Pl} (h : placeE l = .ok (p, r)) : l = placeB p ++ r := by
  obtain ⟨k, m1, h1, h⟩ := bind_ok h
  obtain ⟨s, m2, h2, h⟩ := bind_ok h
  obtain ⟨n, m3, h3, h⟩ := bind_ok h
  obtain ⟨a, m4, h4, h⟩ := bind_ok h
  obtain ⟨c, m5, h5, h⟩ := bind_ok h
  obtain ⟨o, m6, h6, h⟩ := bind_ok h
  cases h
  obtain ⟨e1, _⟩ := byteE_once h1
  obtain ⟨e2, _⟩ := textE_once h2
  obtain ⟨e3, _⟩ := uintE_once h3
  have e4 := maybe_once h4
  obtain ⟨e5, _⟩ := uintE_once h5
  obtain ⟨e6, e7⟩ := many_once (B := flowB) (fun l x r q => flow_once q) _ _ _ _ h6
  subst e1; subst e2; subst e3; subst e4; subst e5; subst e6
  show _ = byte ((k : Int)).toNat :: (textB (bn s) ++ (urow ((n : Int)).toNat ++ (maybeB a ++ (urow o.length ++ o.flatMap flowB)))) ++ _
  rw [Int.toNat_natCast, Int.toNat_natCast, e7]; simp
theorem def_once {l r : BB} {d : Df} (h : defE l = .ok (d, r)) : l = defB d ++ r := by
  obtain ⟨s, m1, h1, h⟩ := bind_ok h
  obtain ⟨c, m2, h2, h⟩ := bind_ok h
  obtain ⟨ps, m3, h3, h⟩ := bind_ok h
  cases h
  obtain ⟨e1, _⟩ := textE_once h1
  obtain ⟨e2, _⟩ := uintE_once h2
  obtain ⟨e3, e4⟩ := many_once (B := placeB) (fun l x r q => place_once q) _ _ _ _ h3
  subst e1; subst e2; subst e3
  show _ = textB (bn s) ++ (urow ps.length ++ ps.flatMap placeB) ++ _
  rw [e4]; simp
theorem read_once {l : BB} {d : Df} (h : readE l = .ok d) : l = defB d ∧ checkD d = 0 := by
  unfold readE at h
  cases hd : defE l with
  | error c => rw [hd] at h; cases h
  | ok dr =>
    obtain ⟨d2, r⟩ := dr
    rw [hd] at h
    simp only at h
    split at h
    · cases h
    · rename_i q1
      split at h
      · cases h
      · rename_i q2
        cases h
        have hr0 : r = [] := by simpa using q1
        subst hr0
        have := def_once hd
        rw [List.append_nil] at this
        exact ⟨this, by simpa using q2⟩
/- How long they are. -/
theorem flat_len {α : Type} {B : α → BB} {m : Nat} : ∀ {l : List α}, (∀ x ∈ l, (B x).length ≤ m) → (l.flatMap B).length ≤ l.length * m
  | [], _ => by simp
  | x :: l, h => by
    have h1 := h x (by simp)
    have h2 := flat_len (l := l) fun y hy => h y (by simp [hy])
    rw [List.flatMap_cons, List.length_append, List.length_cons, Nat.add_mul]
    omega
theorem textB_len {t : Bs} (h : t.length ≤ 32) : (textB t).length ≤ 42 := by
  unfold textB
  have := urow_len (n := t.length) (by omega)
  rw [List.length_append, nb_len]; omega
theorem treeB_len : ∀ (d : Nat) (t : Tr), checkM d t = 0 → NumsIn d t → (treeB d t).length + 1 ≤ 44 * 2 ^ d
  | 0, t, h, _ => by cases h
  | d + 1, t, h, hn => by
    have hs := shape h
    have hnm := name_short h
    have hz := urow_len (zz_lt hn.1.1 hn.1.2)
    have hp : 1 ≤ 2 ^ d := Nat.one_le_two_pow
    show (byte t.kind.toNat :: ((if t.kind = 1 then urow (zz t.n) else if t.kind = 2 then textB t.name else []) ++ t.kids.flatMap (treeB d))).length + 1 ≤ _
    rw [List.length_cons, List.length_append, Nat.pow_succ]
    have hh : (if t.kind = 1 then urow (zz t.n) else if t.kind = 2 then textB t.name else []).length ≤ 42 := by
      split
      · omega
      · split
        · exact textB_len hnm
        · simp
    rcases hs.kids with ⟨_, hk⟩ | ⟨h5, x, hk, hx⟩ | ⟨h7, x, y, hk, hx, hy⟩
    · rw [hk]; simp only [List.flatMap_nil, List.length_nil]; omega
    · have e : (if t.kind = 1 then urow (zz t.n) else if t.kind = 2 then textB t.name else []) = [] := by rw [if_neg (by omega), if_neg (by omega)]
      have := treeB_len d x hx (hn.2 x (by rw [hk]; simp))
      rw [e, hk]; simp only [List.flatMap_cons, List.flatMap_nil, List.length_nil, List.append_nil]; omega
    · have e : (if t.kind = 1 then urow (zz t.n) else if t.kind = 2 then textB t.name else []) = [] := by rw [if_neg (by omega), if_neg (by omega)]
      have := treeB_len d x hx (hn.2 x (by rw [hk]; simp))
      have := treeB_len d y hy (hn.2 y (by rw [hk]; simp))
      rw [e, hk]; simp only [List.flatMap_cons, List.flatMap_nil, List.length_nil, List.append_nil, List.length_append]; omega
theorem treeB_16 {t : Tr} (h : checkM 16 t = 0) (hn : NumsIn 16 t) : (treeB 16 t).length ≤ 2883583 := by
  have := treeB_len 16 t h hn
  omega
theorem maybeB_len {l : List Tr} (hl : l.length ≤ 1) (h : ∀ t ∈ l, checkM 16 t = 0 ∧ NumsIn 16 t) : (maybeB l).length ≤ 2883584 := by
  have := flat_len (B := treeB 16) (m := 2883583) (l := l) fun t ht => treeB_16 (h t ht).1 (h t ht).2
  unfold maybeB
  rw [List.length_cons]
  have : l.length * 2883583 ≤ 2883583 := by omega
  omega
theorem flowB_len {k : Int} {last : Bool} {n : Nat} {f : Fl} (hn : n ≤ 4096) (h : flowM k last n f = 0) (hN : FNums f) : (flowB f).length ≤ 2883594 := by
  obtain ⟨h1, h2, h3, h4⟩ := flow_facts h
  have := maybeB_len h3 fun t ht => ⟨h4 t ht, hN.2 t ht⟩
  have := urow_len (n := f.to.toNat) (by omega)
  unfold flowB
  rw [List.length_append]; omega
theorem placeB_len {p : Pl} {n : Nat} (hn : n ≤ 4096) (h : PFacts p n) (hN : PNums p) : (placeB p).length ≤ 50000000 := by
  have a1 := textB_len h.name
  have a2 := urow_len (n := p.n.toNat) (by have := h.n0; have := h.n9; omega)
  have a3 := maybeB_len h.arg1 fun t ht => ⟨h.arg t ht, hN.1 t ht⟩
  have a4 := urow_len (n := p.out.length) (by have := h.out16; omega)
  have a5 := flat_len (B := flowB) (m := 2883594) (l := p.out) fun f hf => by obtain ⟨last, q⟩ := h.flow f hf; exact flowB_len hn q (hN.2 f hf)
  have a6 : p.out.length * 2883594 ≤ 16 * 2883594 := Nat.mul_le_mul_right _ h.out16
  unfold placeB
  simp only [List.length_cons, List.length_append]
  omega
theorem defB_len {d : Df} (h : DFacts d) (hN : DNums d) : (defB d).length ≤ 204800000100 := by
  have a1 := textB_len h.id
  have a2 := urow_len (n := d.places.length) (by have := h.len; omega)
  have a3 := flat_len (B := placeB) (m := 50000000) (l := d.places) fun p hp => placeB_len h.len (h.place p hp) (hN p hp)
  have a4 : d.places.length * 50000000 ≤ 4096 * 50000000 := Nat.mul_le_mul_right _ h.len
  unfold defB
  simp only [List.length_append]
  omega
end Go.Proofs.Ytjafjheffbbkmaa
