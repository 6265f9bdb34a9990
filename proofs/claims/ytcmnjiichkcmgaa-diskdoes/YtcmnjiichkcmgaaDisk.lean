/-
  What a disk in memory is: a block that holds a map, a map of files by their names, each file a row of bytes of its own and how many of them are synced. What turns and what stays.
-/
import Derived.Test.YtcmnjiichkcmgaaOwn
import Derived.Maps.OwnSet
import Derived.Maps.AppendAt
namespace Go.Proofs.Ytcmnjiichkcmgaa
open Go.RowKit Go.Maps

abbrev Key := List UInt8
abbrev Tab := Key → Option (List (BitVec 8) × Nat)
def upd (F : Tab) (k : Key) (x : Option (List (BitVec 8) × Nat)) : Tab := fun j => if j = k then x else F j
theorem upd_same (F : Tab) (k : Key) (x : Option (List (BitVec 8) × Nat)) : upd F k x k = x := if_pos rfl
theorem upd_other (F : Tab) {k j : Key} (x : Option (List (BitVec 8) × Nat)) (h : j ≠ k) : upd F k x j = F j := if_neg h

/-- A name's bytes. -/
def key (s : ByteArray) : Key := s.data.toList
theorem key_inj {s t : ByteArray} (h : key s = key t) : s = t := by
  cases s; cases t
  unfold key at h
  simp at h
  rw [h]

/-- An element of the map, as it lies there. -/
def RV (v : Value) : Option (DataW Value × List MemPlace) := some (.held v, [])
theorem law9 : Keyed Try.prog 9 := string_keyed Try.underlying9

/-- What a file is in the map. -/
def fileV (v : Value) (s : Nat) : Value := .agg #[v, .int .i64 s]

/-- Blocks may have turned that tu names; new ones may have come; all else stands. -/
structure Turned (tu : Nat → Prop) (w w' : World) : Prop where
  os : w'.os = w.os
  tape : w'.tape = w.tape
  output : w'.output = w.output
  size : w.heap.size ≤ w'.heap.size
  block : ∀ k, k < w.heap.size → ¬ tu k → w'.heap[k]? = w.heap[k]?

theorem Turned.refl (tu : Nat → Prop) (w : World) : Turned tu w w := ⟨rfl, rfl, rfl, Nat.le_refl _, fun _ _ _ => rfl⟩
theorem Turned.mono {tu tv : Nat → Prop} {w w' : World} (h : Turned tu w w') (hs : ∀ i, i < w.heap.size → tu i → tv i) : Turned tv w w' :=
  ⟨h.os, h.tape, h.output, h.size, fun k hk hn => h.block k hk (fun ht => hn (hs k hk ht))⟩
theorem Turned.trans {tu tv : Nat → Prop} {a b c : World} (h : Turned tu a b) (k : Turned tv b c) (hs : ∀ i, i < a.heap.size → tv i → tu i) : Turned tu a c :=
  ⟨k.os.trans h.os, k.tape.trans h.tape, k.output.trans h.output, Nat.le_trans h.size k.size, fun i hi hn => (k.block i (Nat.lt_of_lt_of_le hi h.size) (fun ht => hn (hs i hi ht))).trans (h.block i hi hn)⟩
theorem Turned.of_grown {w w' : World} {row : Option Nat} {tu : Nat → Prop} (h : w.grownBy w' row) (hs : ∀ i, row = some i → tu i) : Turned tu w w' :=
  ⟨h.os, h.tape, h.output, h.size, fun k hk hn => h.block k hk (fun e => hn (hs k e.symm))⟩
theorem Turned.of_below {w w' : World} {tu : Nat → Prop} {n : Nat} (h : Below n w w') (hs : ∀ i, n ≤ i → i < w.heap.size → tu i) : Turned tu w w' :=
  ⟨h.os, h.tape, h.output, h.size, fun k hk hn => by
    by_cases hkn : k < n
    · exact h.block k hkn
    · exact absurd (hs k (by omega) hk) hn⟩
theorem Turned.below {w w' : World} {tu : Nat → Prop} {n : Nat} (h : Turned tu w w') (hn : n ≤ w.heap.size) (hs : ∀ i, tu i → n ≤ i) : Below n w w' :=
  ⟨h.os, h.tape, h.output, h.size, fun k hk => h.block k (by omega) (fun ht => by have := hs k ht; omega)⟩
theorem Turned.alloc (tu : Nat → Prop) (w : World) (o : Obj) : Turned tu w (w.alloc o) := Turned.of_grown (World.grownBy_alloc w o none) (fun _ h => by cases h)

theorem owns_turned {w w' : World} {base : Nat} {e : TypeId} {size : Nat} {v : Value} {n : Nat} {xs : List Value} {tu : Nat → Prop} (h : w.ownsRow base e size v n xs) (ht : Turned tu w w') (hv : ∀ g, v.ownBlock = some g → ¬ tu g) : w'.ownsRow base e size v n xs := by
  refine ⟨h.1, ?_⟩
  rcases h.2 with hn | ⟨g, cap, cur, rfl, hb, hg, rest⟩
  · exact .inl hn
  · exact .inr ⟨g, cap, cur, rfl, hb, (ht.block g (Array.getElem?_eq_some_iff.1 hg).1 (hv g rfl)).trans hg, rest⟩
theorem map_turned {w w' : World} {mb n : Nat} {D : DataW Value} {tu : Nat → Prop} (h : w.ownsMap Try.prog 9 RV mb n D) (ht : Turned tu w w') (hv : ¬ tu mb) : w'.ownsMap Try.prog 9 RV mb n D := by
  have hlt := h.lt
  obtain ⟨es, clock, hb, F, hs, hD⟩ := h
  exact ⟨es, clock, (ht.block mb hlt hv).trans hb, F, hs, hD⟩
theorem owns_rebase {w : World} {base b2 : Nat} {e : TypeId} {size : Nat} {v : Value} {n : Nat} {xs : List Value} (h : w.ownsRow base e size v n xs) (hv : ∀ g, v.ownBlock = some g → b2 ≤ g) : w.ownsRow b2 e size v n xs := by
  refine ⟨h.1, ?_⟩
  rcases h.2 with hn | ⟨g, cap, cur, rfl, hb, rest⟩
  · exact .inl hn
  · exact .inr ⟨g, cap, cur, rfl, hv g rfl, rest⟩

/-- The map in block mb holds the files of F, each in a row of its own; the rows of those that ok names are as F says. -/
structure Held (w : World) (pb : Nat) (fp : Nat → Prop) (mb : Nat) (D : DataW Value) (V : Key → Value) (F : Tab) (ok : Key → Prop) : Prop where
  map : w.ownsMap Try.prog 9 RV mb (Maps.size D) D
  mfp : fp mb
  mne : mb ≠ pb
  no : ∀ k, F k = none → Maps.has D (.string k) = false
  yes : ∀ k l s, F k = some (l, s) → ∀ z, D.atKey (.string k) z = .held (fileV (V k) s)
  own : ∀ k l s, ok k → F k = some (l, s) → Owns w 0 (V k) l
  lies : ∀ k x, F k = some x → ∀ g, (V k).ownBlock = some g → fp g ∧ g ≠ pb ∧ g ≠ mb
  apart : ∀ k k' x x' g, F k = some x → F k' = some x' → (V k).ownBlock = some g → (V k').ownBlock = some g → k = k'

def all : Key → Prop := fun _ => True
def but (k : Key) : Key → Prop := fun j => j ≠ k

/-- The block pb is a disk with the files F, at most N of them, their rows V, in blocks that fp names. -/
def DiskV (w : World) (pb : Nat) (fp : Nat → Prop) (N : Nat) (F : Tab) (V : Key → Value) (ok : Key → Prop) : Prop :=
  (∀ i, fp i → i < w.heap.size) ∧ fp pb ∧
    ((w.heap[pb]? = some (.cells #[.map none] 53 (0, 0)) ∧ ∀ k, F k = none) ∨
     ∃ mb D, w.heap[pb]? = some (.cells #[.map (some mb)] 53 (0, 0)) ∧ Maps.size D ≤ N ∧ Held w pb fp mb D V F ok)
def Disk (w : World) (pb : Nat) (fp : Nat → Prop) (N : Nat) (F : Tab) : Prop := ∃ V, DiskV w pb fp N F V all

def grow (fp : Nat → Prop) (w w' : World) : Nat → Prop := fun i => fp i ∨ (w.heap.size ≤ i ∧ i < w'.heap.size)

theorem DiskV.kept {w w' : World} {pb N : Nat} {fp tu : Nat → Prop} {F : Tab} {V : Key → Value} {ok : Key → Prop} (h : DiskV w pb fp N F V ok) (ht : Turned tu w w') (hd : ∀ i, fp i → ¬ tu i) : DiskV w' pb fp N F V ok := by
  obtain ⟨hs, hp, h⟩ := h
  have hcell := ht.block pb (hs pb hp) (hd pb hp)
  refine ⟨fun i hi => Nat.lt_of_lt_of_le (hs i hi) ht.size, hp, ?_⟩
  rcases h with ⟨h1, h2⟩ | ⟨mb, D, h1, hn, H⟩
  · exact .inl ⟨hcell.trans h1, h2⟩
  · refine .inr ⟨mb, D, hcell.trans h1, hn, ?_⟩
    exact { H with
      map := map_turned H.map ht (hd mb H.mfp)
      own := fun k l s hk hF => owns_turned (H.own k l s hk hF) ht (fun g hg => hd g (H.lies k _ hF g hg).1) }
theorem Disk.kept {w w' : World} {pb N : Nat} {fp tu : Nat → Prop} {F : Tab} (h : Disk w pb fp N F) (ht : Turned tu w w') (hd : ∀ i, fp i → ¬ tu i) : Disk w' pb fp N F := by
  obtain ⟨V, h⟩ := h
  exact ⟨V, h.kept ht hd⟩

theorem DiskV.wider {w : World} {pb N : Nat} {fp fq : Nat → Prop} {F : Tab} {V : Key → Value} {ok : Key → Prop} (h : DiskV w pb fp N F V ok) (hs : ∀ i, fp i → fq i) (hq : ∀ i, fq i → i < w.heap.size) : DiskV w pb fq N F V ok := by
  obtain ⟨_, hp, h⟩ := h
  refine ⟨hq, hs pb hp, ?_⟩
  rcases h with h1 | ⟨mb, D, h1, hn, H⟩
  · exact .inl h1
  · exact .inr ⟨mb, D, h1, hn, { H with mfp := hs mb H.mfp, lies := fun k x hF g hg => ⟨hs g (H.lies k x hF g hg).1, (H.lies k x hF g hg).2⟩ }⟩
theorem Disk.wider {w : World} {pb N : Nat} {fp fq : Nat → Prop} {F : Tab} (h : Disk w pb fp N F) (hs : ∀ i, fp i → fq i) (hq : ∀ i, fq i → i < w.heap.size) : Disk w pb fq N F := by
  obtain ⟨V, h⟩ := h
  exact ⟨V, h.wider hs hq⟩

theorem Disk.more {w : World} {pb N N' : Nat} {fp : Nat → Prop} {F : Tab} (h : Disk w pb fp N F) (hn : N ≤ N') : Disk w pb fp N' F := by
  obtain ⟨V, h1, hp, h⟩ := h
  refine ⟨V, h1, hp, ?_⟩
  rcases h with h1 | ⟨mb, D, h1, hN, H⟩
  · exact .inl h1
  · exact .inr ⟨mb, D, h1, Nat.le_trans hN hn, H⟩

/-- All but one file, when that one's row (or new blocks) alone have turned. -/
theorem DiskV.but_row {w w' : World} {pb N : Nat} {fp : Nat → Prop} {F : Tab} {V : Key → Value} {k : Key} {row : Option Nat} (h : DiskV w pb fp N F V all) (hg : w.grownBy w' row)
    (hr : ∀ i, row = some i → ∃ x, F k = some x ∧ (V k).ownBlock = some i) : DiskV w' pb fp N F V (but k) := by
  obtain ⟨hs, hp, h⟩ := h
  rcases h with ⟨h1, h2⟩ | ⟨mb, D, h1, hn, H⟩
  · refine ⟨fun i hi => Nat.lt_of_lt_of_le (hs i hi) hg.size, hp, .inl ⟨(hg.block pb (hs pb hp) (fun e => ?_)).trans h1, h2⟩⟩
    obtain ⟨x, hx, _⟩ := hr pb e.symm
    rw [h2 k] at hx; cases hx
  · have ne : ∀ i, row = some i → i ≠ pb ∧ i ≠ mb ∧ ∀ j x, j ≠ k → F j = some x → (V j).ownBlock ≠ some i := by
      intro i hi
      obtain ⟨x, hx, hb⟩ := hr i hi
      have := H.lies k x hx i hb
      exact ⟨this.2.1, this.2.2, fun j y hj hF e => hj (H.apart j k y x i hF hx e hb)⟩
    refine ⟨fun i hi => Nat.lt_of_lt_of_le (hs i hi) hg.size, hp, .inr ⟨mb, D, (hg.block pb (hs pb hp) (fun e => (ne pb e.symm).1 rfl)).trans h1, hn, ?_⟩⟩
    exact { H with
      map := H.map.kept hg (fun e => (ne mb e.symm).2.1 rfl)
      own := fun j l s hj hF => by
        refine World.ownsRow.kept (H.own j l s trivial hF) hg ?_
        cases hb : (V j).ownBlock with
        | none => exact .inl rfl
        | some i => exact .inr (fun e => (ne i e.symm).2.2 j _ hj hF hb) }

theorem size_has {w : World} {mb n : Nat} {D : DataW Value} (h : w.ownsMap Try.prog 9 RV mb n D) : w.ownsMap Try.prog 9 RV mb (Maps.size D) D := by
  obtain ⟨es, clock, hb, F, hs, rfl⟩ := h
  exact ⟨es, clock, hb, F, by simp [Maps.size, length_sorted], rfl⟩

theorem keyOf_name {s : ByteArray} (hs : s.size ≤ maxLen) : keyOf Try.prog 9 (.string s) = some (.string (key s)) := Go.WideMaps.keyOf_string_mk Try.underlying9 hs
theorem isKey (k : Key) : WideAt.IsKeyLit (.string k) := by trivial
theorem key_ne {k j : Key} (h : j ≠ k) : (Lit.string j) ≠ Lit.string k := fun e => h (by simpa using e)

/-- A file is stored. -/
theorem Held.stored {w w' : World} {pb mb n N : Nat} {fp : Nat → Prop} {D : DataW Value} {V : Key → Value} {F : Tab} {k : Key} {v : Value} {l : List (BitVec 8)} {s : Nat}
    (H : Held w pb fp mb D V F (but k)) (hN : Maps.size D ≤ N) (hm : w'.ownsMap Try.prog 9 RV mb n (D.put (.string k) (.held (fileV v s)))) (ht : w.mapTurned w' mb) (hv : Owns w 0 v l)
    (hb : ∀ g, v.ownBlock = some g → fp g ∧ g ≠ pb ∧ g ≠ mb ∧ ∀ j x, j ≠ k → F j = some x → (V j).ownBlock ≠ some g) :
    Maps.size (D.put (.string k) (.held (fileV v s))) ≤ (if (F k).isSome then N else N + 1) ∧ Held w' pb fp mb (D.put (.string k) (.held (fileV v s))) (fun j => if j = k then v else V j) (upd F k (some (l, s))) all := by
  have hg := ht.grown
  have hkept : ∀ {u : Value} {m : List (BitVec 8)}, Owns w 0 u m → (∀ g, u.ownBlock = some g → g ≠ mb) → Owns w' 0 u m := by
    intro u m hu hne
    refine World.ownsRow.kept hu hg ?_
    cases hbk : u.ownBlock with
    | none => exact .inl rfl
    | some i => exact .inr (fun e => hne i hbk (by simpa using e))
  constructor
  · rw [size_put (H.map.tidy law9)]
    cases hF : F k with
    | none => rw [H.no k hF]; simp; omega
    | some x =>
      obtain ⟨l0, s0⟩ := x
      rw [has_true_of_atKey (H.yes k l0 s0 hF)]
      simpa using hN
  · refine { map := size_has hm, mfp := H.mfp, mne := H.mne, no := ?_, yes := ?_, own := ?_, lies := ?_, apart := ?_ }
    · intro j hj
      by_cases e : j = k
      · subst e; rw [upd_same] at hj; cases hj
      · rw [upd_other _ _ e] at hj
        rw [has_put_other (key_ne e)]
        exact H.no j hj
    · intro j m t hj z
      by_cases e : j = k
      · subst e
        rw [upd_same] at hj
        simp only [Option.some.injEq, Prod.mk.injEq] at hj
        obtain ⟨rfl, rfl⟩ := hj
        rw [atKey_put_same H.map.isMap (isKey j), if_pos rfl]
      · rw [upd_other _ _ e] at hj
        rw [atKey_put_other (key_ne e), if_neg e]
        exact H.yes j m t hj z
    · intro j m t _ hj
      by_cases e : j = k
      · subst e
        rw [upd_same] at hj
        simp only [Option.some.injEq, Prod.mk.injEq] at hj
        obtain ⟨rfl, rfl⟩ := hj
        rw [if_pos rfl]
        exact hkept hv (fun g hg => (hb g hg).2.2.1)
      · rw [upd_other _ _ e] at hj
        rw [if_neg e]
        exact hkept (H.own j m t e hj) (fun g hg => (H.lies j _ hj g hg).2.2)
    · intro j x hj g hgj
      by_cases e : j = k
      · subst e
        rw [if_pos rfl] at hgj
        exact ⟨(hb g hgj).1, (hb g hgj).2.1, (hb g hgj).2.2.1⟩
      · rw [upd_other _ _ e] at hj
        rw [if_neg e] at hgj
        exact H.lies j x hj g hgj
    · intro j j' x x' g hj hj' hgj hgj'
      by_cases e : j = k
      · by_cases e' : j' = k
        · rw [e, e']
        · subst e
          rw [if_pos rfl] at hgj
          rw [if_neg e'] at hgj'
          rw [upd_other _ _ e'] at hj'
          exact absurd hgj' ((hb g hgj).2.2.2 j' x' e' hj')
      · by_cases e' : j' = k
        · subst e'
          rw [if_pos rfl] at hgj'
          rw [if_neg e] at hgj
          rw [upd_other _ _ e] at hj
          exact absurd hgj ((hb g hgj').2.2.2 j x e hj)
        · rw [if_neg e] at hgj
          rw [if_neg e'] at hgj'
          rw [upd_other _ _ e] at hj
          rw [upd_other _ _ e'] at hj'
          exact H.apart j j' x x' g hj hj' hgj hgj'

/-- A file is struck. -/
theorem Held.struck {w w' : World} {pb mb n N : Nat} {fp : Nat → Prop} {D : DataW Value} {V : Key → Value} {F : Tab} {k : Key} (H : Held w pb fp mb D V F all) (hN : Maps.size D ≤ N) (hm : w'.ownsMap Try.prog 9 RV mb n (D.del (.string k))) (ht : w.mapTurned w' mb) :
    Maps.size (D.del (.string k)) ≤ N ∧ Held w' pb fp mb (D.del (.string k)) V (upd F k none) all := by
  have hg := ht.grown
  constructor
  · have := size_del (k := .string k) (H.map.tidy law9)
    omega
  · refine { map := size_has hm, mfp := H.mfp, mne := H.mne, no := ?_, yes := ?_, own := ?_, lies := ?_, apart := ?_ }
    · intro j hj
      by_cases e : j = k
      · subst e; exact has_del_same
      · rw [upd_other _ _ e] at hj
        rw [has_del_other (key_ne e)]
        exact H.no j hj
    · intro j m t hj z
      by_cases e : j = k
      · subst e; rw [upd_same] at hj; cases hj
      · rw [upd_other _ _ e] at hj
        rw [atKey_del_other (key_ne e)]
        exact H.yes j m t hj z
    · intro j m t _ hj
      by_cases e : j = k
      · subst e; rw [upd_same] at hj; cases hj
      · rw [upd_other _ _ e] at hj
        refine World.ownsRow.kept (H.own j m t trivial hj) hg ?_
        cases hbk : (V j).ownBlock with
        | none => exact .inl rfl
        | some i => exact .inr (fun e2 => (H.lies j _ hj i hbk).2.2 (by simpa using e2))
    · intro j x hj g hgj
      by_cases e : j = k
      · subst e; rw [upd_same] at hj; cases hj
      · rw [upd_other _ _ e] at hj
        exact H.lies j x hj g hgj
    · intro j j' x x' g hj hj' hgj hgj'
      by_cases e : j = k
      · subst e; rw [upd_same] at hj; cases hj
      · by_cases e' : j' = k
        · subst e'; rw [upd_same] at hj'; cases hj'
        · rw [upd_other _ _ e] at hj
          rw [upd_other _ _ e'] at hj'
          exact H.apart j j' x x' g hj hj' hgj hgj'

end Go.Proofs.Ytcmnjiichkcmgaa
