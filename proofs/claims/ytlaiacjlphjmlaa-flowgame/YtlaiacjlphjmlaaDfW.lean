/-
  Definitions in memory: what reads as one.
-/
import Derived.Test.YtlaiacjlphjmlaaDfZ
import Derived.Test.YtlaiacjlphjmlaaVZb
import Derived.Test.YtlaiacjlphjmlaaSame
namespace Go.Proofs.Ytlaiacjlphjmlaa
open Go.RowKit
set_option linter.unusedVariables false

theorem ExsN {n : Nat} : (n : Int).toNat = n := Int.toNat_natCast n
/-- Numbers of a tree in memory. -/
theorem TrV.nums {w : World} {P : Nat → Prop} : ∀ {e : Nat} {v : Value} {t : Tr}, TrV w P e v t → ∀ d, NumsIn d t
  | 0, _, _, h, _ => h.elim
  | e + 1, v, t, _, 0 => True.intro
  | e + 1, v, t, ⟨a, cap, h1, h2, h3, h4, h5, h6, h7⟩, d + 1 => by
    refine ⟨h4, fun k hk => ?_⟩
    obtain ⟨i, hi, rfl⟩ := List.getElem_of_mem hk
    obtain ⟨b, o, u0, u1, u2, u3, k1, k2, k3, k4, k5, k6, k7⟩ := h7 i hi
    rw [List.getD_eq_getElem?_getD, List.getElem?_eq_getElem hi] at k7
    exact k7.nums d
theorem Tre.nums {w : World} {P : Nat → Prop} {v : Value} {t : Tr} (h : Tre w P v t) (d : Nat) : NumsIn d t := by obtain ⟨e, h⟩ := h; exact h.nums d
/-- Trees in a slice. -/
def ExsV (w : World) (P : Nat → Prop) (v : Value) (l : List Tr) : Prop := Tre w P (.agg #[.int .i64 0, .int .i64 0, .string (ba []), v]) ⟨0, 0, [], l⟩
theorem ExsV.form {w : World} {P : Nat → Prop} {v : Value} {l : List Tr} (h : ExsV w P v l) : ∃ a cap, v = .slice a l.length cap ∧ l.length ≤ cap ∧ l.length ≤ 9223372036854775807 ∧ ∀ i, i < l.length → ∃ b o ka kc, KidAt w P a i (l.getD i zeroT) b o ka kc := by
  obtain ⟨a, cap, e, h1, _, _, _, h2, h3⟩ := Tre.opened h
  simp only [Value.agg.injEq, Array.mk.injEq, List.cons.injEq, and_true] at e
  exact ⟨a, cap, e.2.2.2, h1, h2, h3⟩
theorem ExsV.kept {w w' : World} {P Q : Nat → Prop} {v : Value} {l : List Tr} (h : ExsV w P v l) (hf : ∀ g, P g → g < w.heap.size → w'.heap[g]? = w.heap[g]? ∧ Q g) : ExsV w' Q v l := Tre.kept h hf
theorem ExsV.nil (w : World) (P : Nat → Prop) : ExsV w P (.slice none 0 0) [] := Tre.leaf w P inR_zero inR_zero [] (by decide)
theorem ExsV.nums {w : World} {P : Nat → Prop} {v : Value} {l : List Tr} (h : ExsV w P v l) (d : Nat) : ∀ t ∈ l, NumsIn d t := (Tre.nums h (d + 1)).2
/-- A flow. -/
structure FlAt (w : World) (P : Nat → Prop) (b o : Nat) (f : Fl) (a : Option Addr) (c : Nat) : Prop where
  c0 : w.cell? ⟨b, o, none⟩ = some (.int .i64 f.to)
  c1 : w.cell? ⟨b, o + 1, none⟩ = some (.slice a f.ifs.length c)
  ifs : ExsV w P (.slice a f.ifs.length c) f.ifs
  to : InR f.to
theorem cell_kept {w w' : World} {g : Nat} (h : w'.heap[g]? = w.heap[g]?) (o : Nat) : w'.cell? ⟨g, o, none⟩ = w.cell? ⟨g, o, none⟩ := by simp only [World.cell?]; rw [h]
theorem FlAt.kept {w w' : World} {P Q : Nat → Prop} {b o : Nat} {f : Fl} {a : Option Addr} {c : Nat} (h : FlAt w P b o f a c) (hb : P b) (hf : ∀ g, P g → g < w.heap.size → w'.heap[g]? = w.heap[g]? ∧ Q g) : FlAt w' Q b o f a c := by
  have hlt : b < w.heap.size := World.block_lt_of_cell? w _ h.c0
  have e := (hf b hb hlt).1
  exact ⟨(cell_kept e _).trans h.c0, (cell_kept e _).trans h.c1, h.ifs.kept hf, h.to⟩
def FlsV (w : World) (P : Nat → Prop) (v : Value) (l : List Fl) : Prop := ∃ a cap, v = .slice a l.length cap ∧ l.length ≤ cap ∧ l.length ≤ 9223372036854775807 ∧ ∀ i, i < l.length → ∃ b o ka kc, a = some ⟨b, o, none⟩ ∧ P b ∧ FlAt w P b (o + i * 2) (l.getD i zeroF) ka kc
theorem FlsV.kept {w w' : World} {P Q : Nat → Prop} {v : Value} {l : List Fl} (h : FlsV w P v l) (hf : ∀ g, P g → g < w.heap.size → w'.heap[g]? = w.heap[g]? ∧ Q g) : FlsV w' Q v l := by
  obtain ⟨a, cap, h1, h2, h3, h4⟩ := h
  refine ⟨a, cap, h1, h2, h3, fun i hi => ?_⟩
  obtain ⟨b, o, ka, kc, e, hb, hF⟩ := h4 i hi
  exact ⟨b, o, ka, kc, e, (hf b hb (World.block_lt_of_cell? w _ hF.c0)).2, hF.kept hb hf⟩
theorem FlsV.nil (w : World) (P : Nat → Prop) : FlsV w P (.slice none 0 0) [] := ⟨none, 0, rfl, Nat.le_refl _, Nat.zero_le _, fun i hi => by simp at hi⟩
theorem FlsV.nums {w : World} {P : Nat → Prop} {v : Value} {l : List Fl} (h : FlsV w P v l) : ∀ f ∈ l, FNums f := fun f hf => by
  obtain ⟨a, cap, h1, h2, h3, h4⟩ := h
  obtain ⟨i, hi, rfl⟩ := List.getElem_of_mem hf
  obtain ⟨b, o, ka, kc, e, hb, hF⟩ := h4 i hi
  rw [getD_memF hi] at hF
  exact ⟨hF.to, hF.ifs.nums 16⟩
/-- A place's value. -/
structure PlV (w : World) (P : Nat → Prop) (p : Pl) (aa : Option Addr) (ca : Nat) (ao : Option Addr) (co : Nat) : Prop where
  kind : InR p.kind
  n : InR p.n
  name : p.name.length ≤ 9223372036854775807
  arg : ExsV w P (.slice aa p.arg.length ca) p.arg
  out : FlsV w P (.slice ao p.out.length co) p.out
/-- The value itself. -/
def plA (p : Pl) (aa : Option Addr) (ca : Nat) (ao : Option Addr) (co : Nat) : Value := .agg #[.int .i64 p.kind, .string (ba p.name), .int .i64 p.n, .slice aa p.arg.length ca, .slice ao p.out.length co]
theorem PlV.kept {w w' : World} {P Q : Nat → Prop} {p : Pl} {aa : Option Addr} {ca : Nat} {ao : Option Addr} {co : Nat} (h : PlV w P p aa ca ao co) (hf : ∀ g, P g → g < w.heap.size → w'.heap[g]? = w.heap[g]? ∧ Q g) : PlV w' Q p aa ca ao co :=
  ⟨h.kind, h.n, h.name, h.arg.kept hf, h.out.kept hf⟩
theorem PlV.nums {w : World} {P : Nat → Prop} {p : Pl} {aa : Option Addr} {ca : Nat} {ao : Option Addr} {co : Nat} (h : PlV w P p aa ca ao co) : PNums p := ⟨h.arg.nums 16, h.out.nums⟩
structure PlAt (w : World) (P : Nat → Prop) (b o : Nat) (p : Pl) (aa : Option Addr) (ca : Nat) (ao : Option Addr) (co : Nat) : Prop where
  c0 : w.cell? ⟨b, o, none⟩ = some (.int .i64 p.kind)
  c1 : w.cell? ⟨b, o + 1, none⟩ = some (.string (ba p.name))
  c2 : w.cell? ⟨b, o + 2, none⟩ = some (.int .i64 p.n)
  c3 : w.cell? ⟨b, o + 3, none⟩ = some (.slice aa p.arg.length ca)
  c4 : w.cell? ⟨b, o + 4, none⟩ = some (.slice ao p.out.length co)
  val : PlV w P p aa ca ao co
theorem PlAt.kept {w w' : World} {P Q : Nat → Prop} {b o : Nat} {p : Pl} {aa : Option Addr} {ca : Nat} {ao : Option Addr} {co : Nat} (h : PlAt w P b o p aa ca ao co) (hb : P b) (hf : ∀ g, P g → g < w.heap.size → w'.heap[g]? = w.heap[g]? ∧ Q g) : PlAt w' Q b o p aa ca ao co := by
  have hlt : b < w.heap.size := World.block_lt_of_cell? w _ h.c0
  have e := (hf b hb hlt).1
  exact ⟨(cell_kept e _).trans h.c0, (cell_kept e _).trans h.c1, (cell_kept e _).trans h.c2, (cell_kept e _).trans h.c3, (cell_kept e _).trans h.c4, h.val.kept hf⟩
def PlsV (w : World) (P : Nat → Prop) (v : Value) (l : List Pl) : Prop := ∃ a cap, v = .slice a l.length cap ∧ l.length ≤ cap ∧ l.length ≤ 9223372036854775807 ∧ ∀ i, i < l.length → ∃ b o aa ca ao co, a = some ⟨b, o, none⟩ ∧ P b ∧ PlAt w P b (o + i * 5) (l.getD i zeroP) aa ca ao co
theorem PlsV.kept {w w' : World} {P Q : Nat → Prop} {v : Value} {l : List Pl} (h : PlsV w P v l) (hf : ∀ g, P g → g < w.heap.size → w'.heap[g]? = w.heap[g]? ∧ Q g) : PlsV w' Q v l := by
  obtain ⟨a, cap, h1, h2, h3, h4⟩ := h
  refine ⟨a, cap, h1, h2, h3, fun i hi => ?_⟩
  obtain ⟨b, o, aa, ca, ao, co, e, hb, hF⟩ := h4 i hi
  exact ⟨b, o, aa, ca, ao, co, e, (hf b hb (World.block_lt_of_cell? w _ hF.c0)).2, hF.kept hb hf⟩
theorem PlsV.nil (w : World) (P : Nat → Prop) : PlsV w P (.slice none 0 0) [] := ⟨none, 0, rfl, Nat.le_refl _, Nat.zero_le _, fun i hi => by simp at hi⟩
theorem PlsV.nums {w : World} {P : Nat → Prop} {v : Value} {l : List Pl} (h : PlsV w P v l) : ∀ p ∈ l, PNums p := fun f hf => by
  obtain ⟨a, cap, h1, h2, h3, h4⟩ := h
  obtain ⟨i, hi, rfl⟩ := List.getElem_of_mem hf
  obtain ⟨b, o, aa, ca, ao, co, e, hb, hF⟩ := h4 i hi
  rw [getD_memP hi] at hF
  exact hF.val.nums
/-- A definition's value. -/
structure DfV (w : World) (P : Nat → Prop) (d : Df) (a : Option Addr) (c : Nat) : Prop where
  id : d.id.length ≤ 9223372036854775807
  places : PlsV w P (.slice a d.places.length c) d.places
def dfA (d : Df) (a : Option Addr) (c : Nat) : Value := .agg #[.string (ba d.id), .slice a d.places.length c]
theorem DfV.kept {w w' : World} {P Q : Nat → Prop} {d : Df} {a : Option Addr} {c : Nat} (h : DfV w P d a c) (hf : ∀ g, P g → g < w.heap.size → w'.heap[g]? = w.heap[g]? ∧ Q g) : DfV w' Q d a c := ⟨h.id, h.places.kept hf⟩
theorem DfV.nums {w : World} {P : Nat → Prop} {d : Df} {a : Option Addr} {c : Nat} (h : DfV w P d a c) : DNums d := h.places.nums
theorem kept_below {w w' : World} {P : Nat → Prop} (hf : Below w.heap.size w w') : ∀ g, P g → g < w.heap.size → w'.heap[g]? = w.heap[g]? ∧ P g := fun g hg hlt => ⟨hf.block g hlt, hg⟩
theorem kept_base {B : Nat} {w w' : World} {P : Nat → Prop} (hf : Below B w w') (hP : ∀ g, P g → g < B) : ∀ g, P g → g < w.heap.size → w'.heap[g]? = w.heap[g]? ∧ P g := fun g hg hlt => ⟨hf.block g (hP g hg), hg⟩
theorem kept_fr {rb : Nat} {w w' : World} {P Q : Nat → Prop} (hf : Fr rb w w') (hP : ∀ g, P g → g ≠ rb ∧ Q g) : ∀ g, P g → g < w.heap.size → w'.heap[g]? = w.heap[g]? ∧ Q g := fun g hg hlt => ⟨hf.block g hlt (hP g hg).1, (hP g hg).2⟩
theorem kept_sub {w : World} {P Q : Nat → Prop} (hP : ∀ g, P g → Q g) : ∀ g, P g → g < w.heap.size → w.heap[g]? = w.heap[g]? ∧ Q g := fun g hg hlt => ⟨rfl, hP g hg⟩
theorem kept_all {B : Nat} {w w' : World} {P Q : Nat → Prop} (hf : Below B w w') (hP : ∀ g, P g → g < B ∧ Q g) : ∀ g, P g → g < w.heap.size → w'.heap[g]? = w.heap[g]? ∧ Q g := fun g hg hlt => ⟨hf.block g (hP g hg).1, (hP g hg).2⟩
/-- Five cells of a block. -/
structure Cell5 (w : World) (b : Nat) (v0 v1 v2 v3 v4 : Value) : Prop where
  c0 : w.cell? ⟨b, 0, none⟩ = some v0
  c1 : w.cell? ⟨b, 1, none⟩ = some v1
  c2 : w.cell? ⟨b, 2, none⟩ = some v2
  c3 : w.cell? ⟨b, 3, none⟩ = some v3
  c4 : w.cell? ⟨b, 4, none⟩ = some v4
  free : ∀ i, w.frozen? ⟨b, i, none⟩ = false
theorem Cell5.lt {w : World} {b : Nat} {v0 v1 v2 v3 v4 : Value} (h : Cell5 w b v0 v1 v2 v3 v4) : b < w.heap.size := World.block_lt_of_cell? w _ h.c0
theorem Cell5.new (w : World) (v0 v1 v2 v3 v4 : Value) (t : TypeId) : Cell5 (w.alloc (.cells #[v0, v1, v2, v3, v4] t)) w.heap.size v0 v1 v2 v3 v4 := by
  have k := heap_alloc_new w (.cells #[v0, v1, v2, v3, v4] t)
  refine ⟨?_, ?_, ?_, ?_, ?_, fun i => by simp only [World.frozen?]; rw [k]; simp⟩ <;> (rw [cell_of_row _ _ _ _ t (0, 0) k]; rfl)
theorem Cell5.kept {w w' : World} {b : Nat} {v0 v1 v2 v3 v4 : Value} (h : Cell5 w b v0 v1 v2 v3 v4) (e : w'.heap[b]? = w.heap[b]?) : Cell5 w' b v0 v1 v2 v3 v4 :=
  ⟨(cell_kept e _).trans h.c0, (cell_kept e _).trans h.c1, (cell_kept e _).trans h.c2, (cell_kept e _).trans h.c3, (cell_kept e _).trans h.c4, fun i => by have := h.free i; simp only [World.frozen?] at this ⊢; rw [e]; exact this⟩
theorem Cell5.below {w w' : World} {b : Nat} {v0 v1 v2 v3 v4 : Value} (h : Cell5 w b v0 v1 v2 v3 v4) (hf : Below w.heap.size w w') : Cell5 w' b v0 v1 v2 v3 v4 := h.kept (hf.block b h.lt)
/-- Two cells of a block. -/
structure Cell2 (w : World) (b : Nat) (v0 v1 : Value) : Prop where
  c0 : w.cell? ⟨b, 0, none⟩ = some v0
  c1 : w.cell? ⟨b, 1, none⟩ = some v1
  free : ∀ i, w.frozen? ⟨b, i, none⟩ = false
theorem Cell2.lt {w : World} {b : Nat} {v0 v1 : Value} (h : Cell2 w b v0 v1) : b < w.heap.size := World.block_lt_of_cell? w _ h.c0
theorem Cell2.new (w : World) (v0 v1 : Value) (t : TypeId) : Cell2 (w.alloc (.cells #[v0, v1] t)) w.heap.size v0 v1 := by
  have k := heap_alloc_new w (.cells #[v0, v1] t)
  refine ⟨?_, ?_, fun i => by simp only [World.frozen?]; rw [k]; simp⟩ <;> (rw [cell_of_row _ _ _ _ t (0, 0) k]; rfl)
theorem Cell2.kept {w w' : World} {b : Nat} {v0 v1 : Value} (h : Cell2 w b v0 v1) (e : w'.heap[b]? = w.heap[b]?) : Cell2 w' b v0 v1 :=
  ⟨(cell_kept e _).trans h.c0, (cell_kept e _).trans h.c1, fun i => by have := h.free i; simp only [World.frozen?] at this ⊢; rw [e]; exact this⟩
theorem Cell2.below {w w' : World} {b : Nat} {v0 v1 : Value} (h : Cell2 w b v0 v1) (hf : Below w.heap.size w w') : Cell2 w' b v0 v1 := h.kept (hf.block b h.lt)
theorem below_new {w w3 : World} {o : Obj} (h : Below (w.alloc o).heap.size (w.alloc o) w3) : Below w.heap.size w w3 := ((Below.refl _ _).alloc (Nat.le_refl _) _).trans (h.mono (by rw [size_alloc]; omega))
end Go.Proofs.Ytlaiacjlphjmlaa
