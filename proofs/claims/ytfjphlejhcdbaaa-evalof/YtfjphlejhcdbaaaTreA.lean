/-
  The document's Tree: contracts.
-/
import Derived.Test.YtfjphlejhcdbaaaLexA
import Derived.Test.YtfjphlejhcdbaaaRefB
import Derived.Deep.RegionHeld3
import Derived.Test.YtfjphlejhcdbaaaSplW
import Derived.Test.YtfjphlejhcdbaaaTxtA
import Derived.Test.YtfjphlejhcdbaaaNode
namespace Go.Proofs.Ytfjphlejhcdbaaa
section
open Go.RowKit
set_option linter.unusedVariables false



/-- What making a tree leaves. -/
def TPost (w : World) (t : Tr) (e : Ending) (w' : World) : Prop :=
  (∃ (k n : Int) (s : ByteArray) (a : Option Addr) (l c : Nat), e = .returned (.agg #[.int .i64 k, .int .i64 n, .string s, .slice a l c]) ∧ Tre w' (fun g => w.heap.size ≤ g) (.agg #[.int .i64 k, .int .i64 n, .string s, .slice a l c]) t) ∧ Below w.heap.size w w'
theorem tpost_store {w w2 : World} {t : Tr} {v0 v1 v2 v3 : Value} (h : Tre w2 (fun g => w.heap.size < g) (.agg #[v0, v1, v2, v3]) t) (hf : Below w.heap.size w w2) :
    TPost w t (.returned (.agg #[v0, v1, v2, v3])) ((((w2.setCell ⟨w.heap.size, 0, none⟩ v0).setCell ⟨w.heap.size, 1, none⟩ v1).setCell ⟨w.heap.size, 2, none⟩ v2).setCell ⟨w.heap.size, 3, none⟩ v3) := by
  have ne : ∀ i, ¬ (fun g => w.heap.size < g) (⟨w.heap.size, i, none⟩ : Addr).block := fun i => Nat.lt_irrefl _
  have h2 := ((((((h.set (ne 0) v0).set (ne 1) v1).set (ne 2) v2).set (ne 3) v3)).sub fun g hg => Nat.le_of_lt hg)
  refine ⟨?_, (((hf.setCell (p := ⟨w.heap.size, 0, none⟩) (Nat.le_refl _) _).setCell (p := ⟨w.heap.size, 1, none⟩) (Nat.le_refl _) _).setCell (p := ⟨w.heap.size, 2, none⟩) (Nat.le_refl _) _).setCell (p := ⟨w.heap.size, 3, none⟩) (Nat.le_refl _) _⟩
  obtain ⟨a, c, e⟩ := h2.four
  refine ⟨t.kind, t.n, ba t.name, a, t.kids.length, c, by rw [e], ?_⟩
  rw [← e]; exact h2
theorem Lie.head {w : World} {b o : Nat} {x : W} {r : List W} (h : Lie w b o (x :: r)) : WAt w b o x := by
  have := h 0 (Nat.succ_pos _); rw [Nat.zero_mul, Nat.add_zero] at this; exact this
theorem Lie.tail {w : World} {b o : Nat} {x : W} {r : List W} (h : Lie w b o (x :: r)) : Lie w b (o + 4) r := fun i hi => by
  have := h (i + 1) (Nat.succ_lt_succ hi)
  rw [show o + (i + 1) * 4 = o + 4 + i * 4 by omega] at this; exact this
theorem Lie.alloc {w : World} {b o : Nat} {l : List W} (h : Lie w b o l) (x : Obj) : Lie (w.alloc x) b o l := h.below ((Below.refl _ _).alloc (Nat.le_refl _) x)
theorem Lie.lt {w : World} {b o : Nat} {x : W} {r : List W} (h : Lie w b o (x :: r)) : b < w.heap.size := World.block_lt_of_cell? w _ h.head.c0
theorem Lie.take {w : World} {b o : Nat} {l : List W} (h : Lie w b o l) (k : Nat) : Lie w b o (l.take k) := fun i hi => by
  rw [List.length_take] at hi
  have := h i (by omega)
  have e : atL (l.take k) i = atL l i := by unfold atL; rw [List.getD_eq_getElem?_getD, List.getD_eq_getElem?_getD, List.getElem?_take_of_lt (by omega)]
  rw [e]; exact this
theorem Lie.drop {w : World} {b o : Nat} {l : List W} (h : Lie w b o l) (k : Nat) : Lie w b (o + k * 4) (l.drop k) := fun i hi => by
  rw [List.length_drop] at hi
  have := h (k + i) (by omega)
  have e : atL (l.drop k) i = atL l (k + i) := by unfold atL; rw [List.getD_eq_getElem?_getD, List.getD_eq_getElem?_getD, List.getElem?_drop]
  rw [e, show o + k * 4 + i * 4 = o + (k + i) * 4 by omega]; exact this
theorem setsz (w : World) (p : Addr) (v : Value) : (w.setCell p v).heap.size = w.heap.size := by simp
/-- The result's four cells are set, and a row of one kid is made, behind one more variable. -/
theorem tpost_node1 {w w2 : World} {t : Tr} {v0 v1 v2 v3 : Value} {k : Int} (hk : InR k) (X : Obj) (h : Tre w2 (fun g => w.heap.size < g) (.agg #[v0, v1, v2, v3]) t) (hf : Below w.heap.size w w2) (hl2 : w.heap.size < w2.heap.size) :
    TPost w ⟨k, 0, [], [t]⟩ (.returned (.agg #[.int .i64 k, .int .i64 0, .string ⟨#[]⟩, .slice (some ⟨w2.heap.size + 1, 0, none⟩) 1 1]))
      ((((((w2.setCell ⟨w.heap.size, 0, none⟩ (.int .i64 k)).setCell ⟨w.heap.size, 1, none⟩ (.int .i64 0)).setCell ⟨w.heap.size, 2, none⟩ (.string ⟨#[]⟩)).setCell ⟨w.heap.size, 3, none⟩ (.slice (some ⟨w2.heap.size + 1, 0, none⟩) 1 1)).alloc X).alloc (.cells #[v0, v1, v2, v3] 24)) := by
  have ne : ∀ i, ¬ (fun g => w.heap.size < g) (⟨w.heap.size, i, none⟩ : Addr).block := fun i => Nat.lt_irrefl _
  have hT := (((h.set (ne 0) (.int .i64 k)).set (ne 1) (.int .i64 0)).set (ne 2) (.string ⟨#[]⟩)).set (ne 3) (.slice (some ⟨w2.heap.size + 1, 0, none⟩) 1 1)
  have hF := (((hf.setCell (p := ⟨w.heap.size, 0, none⟩) (Nat.le_refl _) (.int .i64 k)).setCell (p := ⟨w.heap.size, 1, none⟩) (Nat.le_refl _) (.int .i64 0)).setCell (p := ⟨w.heap.size, 2, none⟩) (Nat.le_refl _) (.string ⟨#[]⟩)).setCell (p := ⟨w.heap.size, 3, none⟩) (Nat.le_refl _) (.slice (some ⟨w2.heap.size + 1, 0, none⟩) 1 1)
  have hS : ((((w2.setCell ⟨w.heap.size, 0, none⟩ (.int .i64 k)).setCell ⟨w.heap.size, 1, none⟩ (.int .i64 0)).setCell ⟨w.heap.size, 2, none⟩ (.string ⟨#[]⟩)).setCell ⟨w.heap.size, 3, none⟩ (.slice (some ⟨w2.heap.size + 1, 0, none⟩) 1 1)).heap.size = w2.heap.size := by rw [setsz, setsz, setsz, setsz]
  generalize (((w2.setCell ⟨w.heap.size, 0, none⟩ (.int .i64 k)).setCell ⟨w.heap.size, 1, none⟩ (.int .i64 0)).setCell ⟨w.heap.size, 2, none⟩ (.string ⟨#[]⟩)).setCell ⟨w.heap.size, 3, none⟩ (.slice (some ⟨w2.heap.size + 1, 0, none⟩) 1 1) = w3 at *
  have c4 := Cell4.new (w3.alloc X) v0 v1 v2 v3 24
  rw [size_alloc, hS] at c4
  have hF2 := (hF.alloc hF.size X)
  exact ⟨⟨_, _, _, _, _, _, rfl, (Tre.node1 hk ((hT.alloc X).alloc _) (Nat.lt_succ_of_lt hl2) c4.c0 c4.c1 c4.c2 c4.c3).sub fun g hg => Nat.le_of_lt hg⟩, hF2.alloc hF2.size _⟩
set_option maxRecDepth 100000 in
set_option maxHeartbeats 1000000 in
theorem tree_num (x : W) (r : List W) (hlen : r.length < 4096) (b o cap : Nat) (hcap : r.length + 1 ≤ cap) (w : World) (HL : Hid (Lie w b o (x :: r)))
    (HS : Hid (∀ w, Lie w b o (x :: r) → Calls Try.prog 61 #[.slice (some ⟨b, o, none⟩) (r.length + 1) cap] w fun e w' => e = .returned (.int .i64 (-1)) ∧ Below w.heap.size w w'))
    (hk : x.kind = 1) (hn : x.n < 9223372036854775808) :
    Calls Try.prog 43 #[.slice (some ⟨b, o, none⟩) (r.length + 1) cap] w (TPost w ⟨1, x.n, [], []⟩) := by
  have HI1 : Hid (∀ w, Calls Try.prog 58 #[.agg #[.int .i64 x.kind, .string (ba x.text), .int .i64 x.n, .int .i64 x.pos], .string ⟨#[45]⟩] w fun e w' => e = .returned (.bool false) ∧ Below w.heap.size w w') := is_as (isW_no (by omega))
  have HI2 : Hid (∀ w, Calls Try.prog 58 #[.agg #[.int .i64 x.kind, .string (ba x.text), .int .i64 x.n, .int .i64 x.pos], .string ⟨#[33]⟩] w fun e w' => e = .returned (.bool false) ∧ Below w.heap.size w w') := is_as (isW_no (by omega))
  have HI3 : Hid (∀ w, Calls Try.prog 58 #[.agg #[.int .i64 x.kind, .string (ba x.text), .int .i64 x.n, .int .i64 x.pos], .string ⟨#[40]⟩] w fun e w' => e = .returned (.bool false) ∧ Below w.heap.size w w') := is_as (isW_no (by omega))
  rw [hk] at HI1 HI2 HI3
  go_enter Try.func43, Try.ntmps43
  go_wp2_with (first
    | (go_at_call 58; have := HD2; refine (HI3.out _).mono ?_; rintro e w4 ⟨rfl, HB⟩; have HL4 : Hid (Lie w4 b o (x :: r)) := HL3.out.below HB; have HZ4 : Hid (Zero4 w4 w.heap.size) := HZ3.out.below HB; have HB4 : Hid (Below w.heap.size w w4) := HB3.out.trans (HB.mono HB3.out.size); obtain ⟨x0, x1, x2, x3⟩ := HL4.out.head; rw [hk] at x0; have hbl := HL4.out.lt; obtain ⟨q0, q1, q2, q3, q4⟩ := HZ4.out; clear HB)
    | (go_at_call 58; have := HD1; refine (HI2.out _).mono ?_; rintro e w3 ⟨rfl, HB⟩; have HL3 : Hid (Lie w3 b o (x :: r)) := HL2.out.below HB; have HZ3 : Hid (Zero4 w3 w.heap.size) := HZ2.out.below HB; have HB3 : Hid (Below w.heap.size w w3) := HB2.out.trans (HB.mono HB2.out.size); obtain ⟨x0, x1, x2, x3⟩ := HL3.out.head; rw [hk] at x0; have hbl := HL3.out.lt; obtain ⟨q0, q1, q2, q3, q4⟩ := HZ3.out; clear HB; have HD2 : Hid True := trivial)
    | (go_at_call 58; refine (HI1.out _).mono ?_; rintro e w2 ⟨rfl, HB⟩; have HL2 : Hid (Lie w2 b o (x :: r)) := HL1.out.below HB; have HZ2 : Hid (Zero4 w2 w.heap.size) := HZ1.out.below HB; have HB2 : Hid (Below w.heap.size w w2) := HB1.out.trans (HB.mono HB1.out.size); obtain ⟨x0, x1, x2, x3⟩ := HL2.out.head; rw [hk] at x0; have hbl := HL2.out.lt; obtain ⟨q0, q1, q2, q3, q4⟩ := HZ2.out; clear HB; have HD1 : Hid True := trivial)
    | (go_at_call 61; refine (HS.out _ (HL.out.alloc _)).mono ?_; rintro e w1 ⟨rfl, HB⟩; have HL1 : Hid (Lie w1 b o (x :: r)) := (HL.out.alloc _).below HB; have HZ1 : Hid (Zero4 w1 w.heap.size) := (Cell4.new w _ _ _ _ 24).below HB; have HB1 : Hid (Below w.heap.size w w1) := ((Below.refl _ _).alloc (Nat.le_refl _) _).trans (HB.mono (by rw [size_alloc]; omega)); obtain ⟨x0, x1, x2, x3⟩ := HL1.out.head; rw [hk] at x0; have hbl := HL1.out.lt; clear HB))
  refine bodyPost_ret (v := .agg #[.int .i64 1, .int .i64 x.n, .string ⟨#[]⟩, .slice none 0 0]) (by simp [results, Try.results43, go_sem, q0, q1, q2, q3]) rfl ?_
  exact tpost_store (Tre.leaf _ _ ⟨by decide, by decide⟩ ⟨by omega, by omega⟩ [] (Nat.zero_le _)) HB4.out
set_option maxRecDepth 100000 in
set_option maxHeartbeats 1000000 in
theorem tree_yes (x : W) (r : List W) (hlen : r.length < 4096) (b o cap : Nat) (hcap : r.length + 1 ≤ cap) (w : World) (HL : Hid (Lie w b o (x :: r)))
    (HS : Hid (∀ w, Lie w b o (x :: r) → Calls Try.prog 61 #[.slice (some ⟨b, o, none⟩) (r.length + 1) cap] w fun e w' => e = .returned (.int .i64 (-1)) ∧ Below w.heap.size w w'))
    (hk : x.kind ≠ 1) (h1 : isW x 45 = false) (h2 : isW x 33 = false) (h3 : isW x 40 = false) (ht : x.text.length ≤ 4096) (hyes : x.text = yesB) :
    Calls Try.prog 43 #[.slice (some ⟨b, o, none⟩) (r.length + 1) cap] w (TPost w ⟨3, 0, [], []⟩) := by
  have HI1 : Hid (∀ w, Calls Try.prog 58 #[.agg #[.int .i64 x.kind, .string (ba x.text), .int .i64 x.n, .int .i64 x.pos], .string ⟨#[45]⟩] w fun e w' => e = .returned (.bool false) ∧ Below w.heap.size w w') := is_as h1
  have HI2 : Hid (∀ w, Calls Try.prog 58 #[.agg #[.int .i64 x.kind, .string (ba x.text), .int .i64 x.n, .int .i64 x.pos], .string ⟨#[33]⟩] w fun e w' => e = .returned (.bool false) ∧ Below w.heap.size w w') := is_as h2
  have HI3 : Hid (∀ w, Calls Try.prog 58 #[.agg #[.int .i64 x.kind, .string (ba x.text), .int .i64 x.n, .int .i64 x.pos], .string ⟨#[40]⟩] w fun e w' => e = .returned (.bool false) ∧ Below w.heap.size w w') := is_as h3
  have hki : ((x.kind : Int) == 1) = false := by simp; omega
  have key : ∀ l : Bs, ((ba x.text).toList == l) = decide (x.text = l) := fun l => by
    rw [ba_toList]
    by_cases h : x.text = l
    · rw [decide_eq_true h]; simpa using h
    · rw [decide_eq_false h]; simpa using h
  have hy : (⟨#[121, 101, 115]⟩ : ByteArray).toList = [121, 101, 115] := ByteArray.toList_mk ..
  have hn : (⟨#[110, 111]⟩ : ByteArray).toList = [110, 111] := ByteArray.toList_mk ..
  have g1 : ((ba x.text).toList == [121, 101, 115]) = true := (key _).trans (decide_eq_true hyes)
  clear key hyes
  go_enter Try.func43, Try.ntmps43
  go_wp2_with (first
    | (go_at_call 58; have := HD2; refine (HI3.out _).mono ?_; rintro e w4 ⟨rfl, HB⟩; have HL4 : Hid (Lie w4 b o (x :: r)) := HL3.out.below HB; have HZ4 : Hid (Zero4 w4 w.heap.size) := HZ3.out.below HB; have HB4 : Hid (Below w.heap.size w w4) := HB3.out.trans (HB.mono HB3.out.size); obtain ⟨x0, x1, x2, x3⟩ := HL4.out.head; have hbl := HL4.out.lt; obtain ⟨q0, q1, q2, q3, q4⟩ := HZ4.out; clear HB)
    | (go_at_call 58; have := HD1; refine (HI2.out _).mono ?_; rintro e w3 ⟨rfl, HB⟩; have HL3 : Hid (Lie w3 b o (x :: r)) := HL2.out.below HB; have HZ3 : Hid (Zero4 w3 w.heap.size) := HZ2.out.below HB; have HB3 : Hid (Below w.heap.size w w3) := HB2.out.trans (HB.mono HB2.out.size); obtain ⟨x0, x1, x2, x3⟩ := HL3.out.head; have hbl := HL3.out.lt; obtain ⟨q0, q1, q2, q3, q4⟩ := HZ3.out; clear HB; have HD2 : Hid True := trivial)
    | (go_at_call 58; refine (HI1.out _).mono ?_; rintro e w2 ⟨rfl, HB⟩; have HL2 : Hid (Lie w2 b o (x :: r)) := HL1.out.below HB; have HZ2 : Hid (Zero4 w2 w.heap.size) := HZ1.out.below HB; have HB2 : Hid (Below w.heap.size w w2) := HB1.out.trans (HB.mono HB1.out.size); obtain ⟨x0, x1, x2, x3⟩ := HL2.out.head; have hbl := HL2.out.lt; obtain ⟨q0, q1, q2, q3, q4⟩ := HZ2.out; clear HB; have HD1 : Hid True := trivial)
    | (go_at_call 61; refine (HS.out _ (HL.out.alloc _)).mono ?_; rintro e w1 ⟨rfl, HB⟩; have HL1 : Hid (Lie w1 b o (x :: r)) := (HL.out.alloc _).below HB; have HZ1 : Hid (Zero4 w1 w.heap.size) := (Cell4.new w _ _ _ _ 24).below HB; have HB1 : Hid (Below w.heap.size w w1) := ((Below.refl _ _).alloc (Nat.le_refl _) _).trans (HB.mono (by rw [size_alloc]; omega)); obtain ⟨x0, x1, x2, x3⟩ := HL1.out.head; have hbl := HL1.out.lt; clear HB))
  refine bodyPost_ret (v := .agg #[.int .i64 3, .int .i64 0, .string ⟨#[]⟩, .slice none 0 0]) (by simp [results, Try.results43, go_sem, q0, q1, q2, q3]) rfl ?_
  exact tpost_store (Tre.leaf _ _ ⟨by decide, by decide⟩ inR_zero [] (Nat.zero_le _)) HB4.out
set_option maxRecDepth 100000 in
set_option maxHeartbeats 1000000 in
theorem tree_no (x : W) (r : List W) (hlen : r.length < 4096) (b o cap : Nat) (hcap : r.length + 1 ≤ cap) (w : World) (HL : Hid (Lie w b o (x :: r)))
    (HS : Hid (∀ w, Lie w b o (x :: r) → Calls Try.prog 61 #[.slice (some ⟨b, o, none⟩) (r.length + 1) cap] w fun e w' => e = .returned (.int .i64 (-1)) ∧ Below w.heap.size w w'))
    (hk : x.kind ≠ 1) (h1 : isW x 45 = false) (h2 : isW x 33 = false) (h3 : isW x 40 = false) (ht : x.text.length ≤ 4096) (hyes : x.text ≠ yesB) (hno : x.text = noB) :
    Calls Try.prog 43 #[.slice (some ⟨b, o, none⟩) (r.length + 1) cap] w (TPost w ⟨4, 0, [], []⟩) := by
  have HI1 : Hid (∀ w, Calls Try.prog 58 #[.agg #[.int .i64 x.kind, .string (ba x.text), .int .i64 x.n, .int .i64 x.pos], .string ⟨#[45]⟩] w fun e w' => e = .returned (.bool false) ∧ Below w.heap.size w w') := is_as h1
  have HI2 : Hid (∀ w, Calls Try.prog 58 #[.agg #[.int .i64 x.kind, .string (ba x.text), .int .i64 x.n, .int .i64 x.pos], .string ⟨#[33]⟩] w fun e w' => e = .returned (.bool false) ∧ Below w.heap.size w w') := is_as h2
  have HI3 : Hid (∀ w, Calls Try.prog 58 #[.agg #[.int .i64 x.kind, .string (ba x.text), .int .i64 x.n, .int .i64 x.pos], .string ⟨#[40]⟩] w fun e w' => e = .returned (.bool false) ∧ Below w.heap.size w w') := is_as h3
  have hki : ((x.kind : Int) == 1) = false := by simp; omega
  have key : ∀ l : Bs, ((ba x.text).toList == l) = decide (x.text = l) := fun l => by
    rw [ba_toList]
    by_cases h : x.text = l
    · rw [decide_eq_true h]; simpa using h
    · rw [decide_eq_false h]; simpa using h
  have hy : (⟨#[121, 101, 115]⟩ : ByteArray).toList = [121, 101, 115] := ByteArray.toList_mk ..
  have hn : (⟨#[110, 111]⟩ : ByteArray).toList = [110, 111] := ByteArray.toList_mk ..
  have g1 : ((ba x.text).toList == [121, 101, 115]) = false := (key _).trans (decide_eq_false hyes)
  have g2 : ((ba x.text).toList == [110, 111]) = true := (key _).trans (decide_eq_true hno)
  clear key hyes hno
  go_enter Try.func43, Try.ntmps43
  go_wp2_with (first
    | (go_at_call 58; have := HD2; refine (HI3.out _).mono ?_; rintro e w4 ⟨rfl, HB⟩; have HL4 : Hid (Lie w4 b o (x :: r)) := HL3.out.below HB; have HZ4 : Hid (Zero4 w4 w.heap.size) := HZ3.out.below HB; have HB4 : Hid (Below w.heap.size w w4) := HB3.out.trans (HB.mono HB3.out.size); obtain ⟨x0, x1, x2, x3⟩ := HL4.out.head; have hbl := HL4.out.lt; obtain ⟨q0, q1, q2, q3, q4⟩ := HZ4.out; clear HB)
    | (go_at_call 58; have := HD1; refine (HI2.out _).mono ?_; rintro e w3 ⟨rfl, HB⟩; have HL3 : Hid (Lie w3 b o (x :: r)) := HL2.out.below HB; have HZ3 : Hid (Zero4 w3 w.heap.size) := HZ2.out.below HB; have HB3 : Hid (Below w.heap.size w w3) := HB2.out.trans (HB.mono HB2.out.size); obtain ⟨x0, x1, x2, x3⟩ := HL3.out.head; have hbl := HL3.out.lt; obtain ⟨q0, q1, q2, q3, q4⟩ := HZ3.out; clear HB; have HD2 : Hid True := trivial)
    | (go_at_call 58; refine (HI1.out _).mono ?_; rintro e w2 ⟨rfl, HB⟩; have HL2 : Hid (Lie w2 b o (x :: r)) := HL1.out.below HB; have HZ2 : Hid (Zero4 w2 w.heap.size) := HZ1.out.below HB; have HB2 : Hid (Below w.heap.size w w2) := HB1.out.trans (HB.mono HB1.out.size); obtain ⟨x0, x1, x2, x3⟩ := HL2.out.head; have hbl := HL2.out.lt; obtain ⟨q0, q1, q2, q3, q4⟩ := HZ2.out; clear HB; have HD1 : Hid True := trivial)
    | (go_at_call 61; refine (HS.out _ (HL.out.alloc _)).mono ?_; rintro e w1 ⟨rfl, HB⟩; have HL1 : Hid (Lie w1 b o (x :: r)) := (HL.out.alloc _).below HB; have HZ1 : Hid (Zero4 w1 w.heap.size) := (Cell4.new w _ _ _ _ 24).below HB; have HB1 : Hid (Below w.heap.size w w1) := ((Below.refl _ _).alloc (Nat.le_refl _) _).trans (HB.mono (by rw [size_alloc]; omega)); obtain ⟨x0, x1, x2, x3⟩ := HL1.out.head; have hbl := HL1.out.lt; clear HB))
  refine bodyPost_ret (v := .agg #[.int .i64 4, .int .i64 0, .string ⟨#[]⟩, .slice none 0 0]) (by simp [results, Try.results43, go_sem, q0, q1, q2, q3]) rfl ?_
  exact tpost_store (Tre.leaf _ _ ⟨by decide, by decide⟩ inR_zero [] (Nat.zero_le _)) HB4.out
set_option maxRecDepth 100000 in
set_option maxHeartbeats 1000000 in
theorem tree_var (x : W) (r : List W) (hlen : r.length < 4096) (b o cap : Nat) (hcap : r.length + 1 ≤ cap) (w : World) (HL : Hid (Lie w b o (x :: r)))
    (HS : Hid (∀ w, Lie w b o (x :: r) → Calls Try.prog 61 #[.slice (some ⟨b, o, none⟩) (r.length + 1) cap] w fun e w' => e = .returned (.int .i64 (-1)) ∧ Below w.heap.size w w'))
    (hk : x.kind ≠ 1) (h1 : isW x 45 = false) (h2 : isW x 33 = false) (h3 : isW x 40 = false) (ht : x.text.length ≤ 4096) (hyes : x.text ≠ yesB) (hno : x.text ≠ noB) :
    Calls Try.prog 43 #[.slice (some ⟨b, o, none⟩) (r.length + 1) cap] w (TPost w ⟨2, 0, x.text, []⟩) := by
  have HI1 : Hid (∀ w, Calls Try.prog 58 #[.agg #[.int .i64 x.kind, .string (ba x.text), .int .i64 x.n, .int .i64 x.pos], .string ⟨#[45]⟩] w fun e w' => e = .returned (.bool false) ∧ Below w.heap.size w w') := is_as h1
  have HI2 : Hid (∀ w, Calls Try.prog 58 #[.agg #[.int .i64 x.kind, .string (ba x.text), .int .i64 x.n, .int .i64 x.pos], .string ⟨#[33]⟩] w fun e w' => e = .returned (.bool false) ∧ Below w.heap.size w w') := is_as h2
  have HI3 : Hid (∀ w, Calls Try.prog 58 #[.agg #[.int .i64 x.kind, .string (ba x.text), .int .i64 x.n, .int .i64 x.pos], .string ⟨#[40]⟩] w fun e w' => e = .returned (.bool false) ∧ Below w.heap.size w w') := is_as h3
  have hki : ((x.kind : Int) == 1) = false := by simp; omega
  have key : ∀ l : Bs, ((ba x.text).toList == l) = decide (x.text = l) := fun l => by
    rw [ba_toList]
    by_cases h : x.text = l
    · rw [decide_eq_true h]; simpa using h
    · rw [decide_eq_false h]; simpa using h
  have hy : (⟨#[121, 101, 115]⟩ : ByteArray).toList = [121, 101, 115] := ByteArray.toList_mk ..
  have hn : (⟨#[110, 111]⟩ : ByteArray).toList = [110, 111] := ByteArray.toList_mk ..
  have g1 : ((ba x.text).toList == [121, 101, 115]) = false := (key _).trans (decide_eq_false hyes)
  have g2 : ((ba x.text).toList == [110, 111]) = false := (key _).trans (decide_eq_false hno)
  clear key hyes hno
  go_enter Try.func43, Try.ntmps43
  go_wp2_with (first
    | (go_at_call 58; have := HD2; refine (HI3.out _).mono ?_; rintro e w4 ⟨rfl, HB⟩; have HL4 : Hid (Lie w4 b o (x :: r)) := HL3.out.below HB; have HZ4 : Hid (Zero4 w4 w.heap.size) := HZ3.out.below HB; have HB4 : Hid (Below w.heap.size w w4) := HB3.out.trans (HB.mono HB3.out.size); obtain ⟨x0, x1, x2, x3⟩ := HL4.out.head; have hbl := HL4.out.lt; obtain ⟨q0, q1, q2, q3, q4⟩ := HZ4.out; clear HB)
    | (go_at_call 58; have := HD1; refine (HI2.out _).mono ?_; rintro e w3 ⟨rfl, HB⟩; have HL3 : Hid (Lie w3 b o (x :: r)) := HL2.out.below HB; have HZ3 : Hid (Zero4 w3 w.heap.size) := HZ2.out.below HB; have HB3 : Hid (Below w.heap.size w w3) := HB2.out.trans (HB.mono HB2.out.size); obtain ⟨x0, x1, x2, x3⟩ := HL3.out.head; have hbl := HL3.out.lt; obtain ⟨q0, q1, q2, q3, q4⟩ := HZ3.out; clear HB; have HD2 : Hid True := trivial)
    | (go_at_call 58; refine (HI1.out _).mono ?_; rintro e w2 ⟨rfl, HB⟩; have HL2 : Hid (Lie w2 b o (x :: r)) := HL1.out.below HB; have HZ2 : Hid (Zero4 w2 w.heap.size) := HZ1.out.below HB; have HB2 : Hid (Below w.heap.size w w2) := HB1.out.trans (HB.mono HB1.out.size); obtain ⟨x0, x1, x2, x3⟩ := HL2.out.head; have hbl := HL2.out.lt; obtain ⟨q0, q1, q2, q3, q4⟩ := HZ2.out; clear HB; have HD1 : Hid True := trivial)
    | (go_at_call 61; refine (HS.out _ (HL.out.alloc _)).mono ?_; rintro e w1 ⟨rfl, HB⟩; have HL1 : Hid (Lie w1 b o (x :: r)) := (HL.out.alloc _).below HB; have HZ1 : Hid (Zero4 w1 w.heap.size) := (Cell4.new w _ _ _ _ 24).below HB; have HB1 : Hid (Below w.heap.size w w1) := ((Below.refl _ _).alloc (Nat.le_refl _) _).trans (HB.mono (by rw [size_alloc]; omega)); obtain ⟨x0, x1, x2, x3⟩ := HL1.out.head; have hbl := HL1.out.lt; clear HB))
  refine bodyPost_ret (v := .agg #[.int .i64 2, .int .i64 0, .string (ba x.text), .slice none 0 0]) (by simp [results, Try.results43, go_sem, q0, q1, q2, q3]) rfl ?_
  exact tpost_store (Tre.leaf _ _ ⟨by decide, by decide⟩ inR_zero x.text (by omega)) HB4.out
set_option maxRecDepth 100000 in
set_option maxHeartbeats 1000000 in
theorem tree_neg (x : W) (r : List W) (hlen : r.length < 4096) (b o cap : Nat) (hcap : r.length + 1 ≤ cap) (w : World) (HL : Hid (Lie w b o (x :: r)))
    (HS : Hid (∀ w, Lie w b o (x :: r) → Calls Try.prog 61 #[.slice (some ⟨b, o, none⟩) (r.length + 1) cap] w fun e w' => e = .returned (.int .i64 (-1)) ∧ Below w.heap.size w w'))
    (hr : 1 ≤ r.length) (t : Tr) (hx : isW x 45 = true)
    (HT : Hid (∀ w, Lie w b (o + 4) r → Calls Try.prog 43 #[.slice (some ⟨b, o + 4, none⟩) r.length (cap - 1)] w (TPost w t))) :
    Calls Try.prog 43 #[.slice (some ⟨b, o, none⟩) (r.length + 1) cap] w (TPost w ⟨5, 0, [], [t]⟩) := by
  have hc1 : ¬ cap = 1 := by omega
  have HI1 : Hid (∀ w, Calls Try.prog 58 #[.agg #[.int .i64 x.kind, .string (ba x.text), .int .i64 x.n, .int .i64 x.pos], .string ⟨#[45]⟩] w fun e w' => e = .returned (.bool true) ∧ Below w.heap.size w w') := is_as hx
  go_enter Try.func43, Try.ntmps43
  go_wp2_with (first
    | (go_at_call 43; refine (HT.out _ HL2.out.tail).mono ?_; rintro e w3 ⟨⟨tk, tn, ts, ta, tl, tc, rfl, HTr⟩, HB⟩; obtain ⟨q0, q1, q2, q3, q4⟩ := HZ2.out.below HB; have hzl : w.heap.size < w3.heap.size := (HZ2.out.below HB).lt; have HB3 : Hid (Below w.heap.size w w3) := HB2.out.trans (HB.mono HB2.out.size); have HT3 : Hid (Tre w3 (fun g => w.heap.size < g) (.agg #[.int .i64 tk, .int .i64 tn, .string ts, .slice ta tl tc]) t) := HTr.sub (fun g hg => Nat.lt_of_lt_of_le HZ2.out.lt hg); clear HB HTr)
    | (go_at_call 58; refine (HI1.out _).mono ?_; rintro e w2 ⟨rfl, HB⟩; have HL2 : Hid (Lie w2 b o (x :: r)) := HL1.out.below HB; have HZ2 : Hid (Zero4 w2 w.heap.size) := HZ1.out.below HB; have HB2 : Hid (Below w.heap.size w w2) := HB1.out.trans (HB.mono HB1.out.size); obtain ⟨x0, x1, x2, x3⟩ := HL2.out.head; have hbl := HL2.out.lt; obtain ⟨q0, q1, q2, q3, q4⟩ := HZ2.out; clear HB; have HD1 : Hid True := trivial)
    | (go_at_call 61; refine (HS.out _ (HL.out.alloc _)).mono ?_; rintro e w1 ⟨rfl, HB⟩; have HL1 : Hid (Lie w1 b o (x :: r)) := (HL.out.alloc _).below HB; have HZ1 : Hid (Zero4 w1 w.heap.size) := (Cell4.new w _ _ _ _ 24).below HB; have HB1 : Hid (Below w.heap.size w w1) := ((Below.refl _ _).alloc (Nat.le_refl _) _).trans (HB.mono (by rw [size_alloc]; omega)); obtain ⟨x0, x1, x2, x3⟩ := HL1.out.head; have hbl := HL1.out.lt; clear HB))
  have hz4 : w.heap.size < w3.heap.size + 1 := by omega
  refine bodyPost_ret (v := .agg #[.int .i64 5, .int .i64 0, .string ⟨#[]⟩, .slice (some ⟨w3.heap.size + 1, 0, none⟩) 1 1]) (by simp [results, Try.results43, go_sem, q0, q1, q2, q3, hzl, hz4]) rfl ?_
  exact tpost_node1 ⟨by decide, by decide⟩ _ HT3.out HB3.out hzl
set_option maxRecDepth 100000 in
set_option maxHeartbeats 1000000 in
theorem tree_not (x : W) (r : List W) (hlen : r.length < 4096) (b o cap : Nat) (hcap : r.length + 1 ≤ cap) (w : World) (HL : Hid (Lie w b o (x :: r)))
    (HS : Hid (∀ w, Lie w b o (x :: r) → Calls Try.prog 61 #[.slice (some ⟨b, o, none⟩) (r.length + 1) cap] w fun e w' => e = .returned (.int .i64 (-1)) ∧ Below w.heap.size w w'))
    (hr : 1 ≤ r.length) (t : Tr) (hx : isW x 33 = true)
    (HT : Hid (∀ w, Lie w b (o + 4) r → Calls Try.prog 43 #[.slice (some ⟨b, o + 4, none⟩) r.length (cap - 1)] w (TPost w t))) :
    Calls Try.prog 43 #[.slice (some ⟨b, o, none⟩) (r.length + 1) cap] w (TPost w ⟨6, 0, [], [t]⟩) := by
  have hc1 : ¬ cap = 1 := by omega
  have HI1 : Hid (∀ w, Calls Try.prog 58 #[.agg #[.int .i64 x.kind, .string (ba x.text), .int .i64 x.n, .int .i64 x.pos], .string ⟨#[45]⟩] w fun e w' => e = .returned (.bool false) ∧ Below w.heap.size w w') := is_as (isW_not hx (by decide))
  have HI2 : Hid (∀ w, Calls Try.prog 58 #[.agg #[.int .i64 x.kind, .string (ba x.text), .int .i64 x.n, .int .i64 x.pos], .string ⟨#[33]⟩] w fun e w' => e = .returned (.bool true) ∧ Below w.heap.size w w') := is_as hx
  go_enter Try.func43, Try.ntmps43
  go_wp2_with (first
    | (go_at_call 43; refine (HT.out _ HL3.out.tail).mono ?_; rintro e w4 ⟨⟨tk, tn, ts, ta, tl, tc, rfl, HTr⟩, HB⟩; obtain ⟨q0, q1, q2, q3, q4⟩ := HZ3.out.below HB; have hzl : w.heap.size < w4.heap.size := (HZ3.out.below HB).lt; have HB4 : Hid (Below w.heap.size w w4) := HB3.out.trans (HB.mono HB3.out.size); have HT3 : Hid (Tre w4 (fun g => w.heap.size < g) (.agg #[.int .i64 tk, .int .i64 tn, .string ts, .slice ta tl tc]) t) := HTr.sub (fun g hg => Nat.lt_of_lt_of_le HZ3.out.lt hg); clear HB HTr)
    | (go_at_call 58; have := HD1; refine (HI2.out _).mono ?_; rintro e w3 ⟨rfl, HB⟩; have HL3 : Hid (Lie w3 b o (x :: r)) := HL2.out.below HB; have HZ3 : Hid (Zero4 w3 w.heap.size) := HZ2.out.below HB; have HB3 : Hid (Below w.heap.size w w3) := HB2.out.trans (HB.mono HB2.out.size); obtain ⟨x0, x1, x2, x3⟩ := HL3.out.head; have hbl := HL3.out.lt; obtain ⟨q0, q1, q2, q3, q4⟩ := HZ3.out; clear HB; have HD2 : Hid True := trivial)
    | (go_at_call 58; refine (HI1.out _).mono ?_; rintro e w2 ⟨rfl, HB⟩; have HL2 : Hid (Lie w2 b o (x :: r)) := HL1.out.below HB; have HZ2 : Hid (Zero4 w2 w.heap.size) := HZ1.out.below HB; have HB2 : Hid (Below w.heap.size w w2) := HB1.out.trans (HB.mono HB1.out.size); obtain ⟨x0, x1, x2, x3⟩ := HL2.out.head; have hbl := HL2.out.lt; obtain ⟨q0, q1, q2, q3, q4⟩ := HZ2.out; clear HB; have HD1 : Hid True := trivial)
    | (go_at_call 61; refine (HS.out _ (HL.out.alloc _)).mono ?_; rintro e w1 ⟨rfl, HB⟩; have HL1 : Hid (Lie w1 b o (x :: r)) := (HL.out.alloc _).below HB; have HZ1 : Hid (Zero4 w1 w.heap.size) := (Cell4.new w _ _ _ _ 24).below HB; have HB1 : Hid (Below w.heap.size w w1) := ((Below.refl _ _).alloc (Nat.le_refl _) _).trans (HB.mono (by rw [size_alloc]; omega)); obtain ⟨x0, x1, x2, x3⟩ := HL1.out.head; have hbl := HL1.out.lt; clear HB))
  have hz4 : w.heap.size < w4.heap.size + 1 := by omega
  refine bodyPost_ret (v := .agg #[.int .i64 6, .int .i64 0, .string ⟨#[]⟩, .slice (some ⟨w4.heap.size + 1, 0, none⟩) 1 1]) (by simp [results, Try.results43, go_sem, q0, q1, q2, q3, hzl, hz4]) rfl ?_
  exact tpost_node1 ⟨by decide, by decide⟩ _ HT3.out HB4.out hzl
set_option maxRecDepth 100000 in
set_option maxHeartbeats 1000000 in
theorem tree_in (x : W) (r : List W) (hlen : r.length < 4096) (b o cap : Nat) (hcap : r.length + 1 ≤ cap) (w : World) (HL : Hid (Lie w b o (x :: r)))
    (HS : Hid (∀ w, Lie w b o (x :: r) → Calls Try.prog 61 #[.slice (some ⟨b, o, none⟩) (r.length + 1) cap] w fun e w' => e = .returned (.int .i64 (-1)) ∧ Below w.heap.size w w'))
    (hr : 2 ≤ r.length) (t : Tr) (hx : isW x 40 = true)
    (HT : Hid (∀ w, Lie w b (o + 4) r.dropLast → Calls Try.prog 43 #[.slice (some ⟨b, o + 4, none⟩) (r.length - 1) (cap - 1)] w (TPost w t))) :
    Calls Try.prog 43 #[.slice (some ⟨b, o, none⟩) (r.length + 1) cap] w (TPost w t) := by
  have hc1 : ¬ cap = 1 := by omega
  have HI1 : Hid (∀ w, Calls Try.prog 58 #[.agg #[.int .i64 x.kind, .string (ba x.text), .int .i64 x.n, .int .i64 x.pos], .string ⟨#[45]⟩] w fun e w' => e = .returned (.bool false) ∧ Below w.heap.size w w') := is_as (isW_not hx (by decide))
  have HI2 : Hid (∀ w, Calls Try.prog 58 #[.agg #[.int .i64 x.kind, .string (ba x.text), .int .i64 x.n, .int .i64 x.pos], .string ⟨#[33]⟩] w fun e w' => e = .returned (.bool false) ∧ Below w.heap.size w w') := is_as (isW_not hx (by decide))
  have HI3 : Hid (∀ w, Calls Try.prog 58 #[.agg #[.int .i64 x.kind, .string (ba x.text), .int .i64 x.n, .int .i64 x.pos], .string ⟨#[40]⟩] w fun e w' => e = .returned (.bool true) ∧ Below w.heap.size w w') := is_as hx
  go_enter Try.func43, Try.ntmps43
  go_wp2_with (first
    | (go_at_call 43; refine (HT.out _ (by rw [List.dropLast_eq_take]; exact HL4.out.tail.take _)).mono ?_; rintro e w5 ⟨⟨tk, tn, ts, ta, tl, tc, rfl, HTr⟩, HB⟩; obtain ⟨q0, q1, q2, q3, q4⟩ := HZ4.out.below HB; have hzl : w.heap.size < w5.heap.size := (HZ4.out.below HB).lt; have HB5 : Hid (Below w.heap.size w w5) := HB4.out.trans (HB.mono HB4.out.size); have HT3 : Hid (Tre w5 (fun g => w.heap.size < g) (.agg #[.int .i64 tk, .int .i64 tn, .string ts, .slice ta tl tc]) t) := HTr.sub (fun g hg => Nat.lt_of_lt_of_le HZ4.out.lt hg); clear HB HTr)
    | (go_at_call 58; have := HD2; refine (HI3.out _).mono ?_; rintro e w4 ⟨rfl, HB⟩; have HL4 : Hid (Lie w4 b o (x :: r)) := HL3.out.below HB; have HZ4 : Hid (Zero4 w4 w.heap.size) := HZ3.out.below HB; have HB4 : Hid (Below w.heap.size w w4) := HB3.out.trans (HB.mono HB3.out.size); obtain ⟨x0, x1, x2, x3⟩ := HL4.out.head; have hbl := HL4.out.lt; obtain ⟨q0, q1, q2, q3, q4⟩ := HZ4.out; clear HB)
    | (go_at_call 58; have := HD1; refine (HI2.out _).mono ?_; rintro e w3 ⟨rfl, HB⟩; have HL3 : Hid (Lie w3 b o (x :: r)) := HL2.out.below HB; have HZ3 : Hid (Zero4 w3 w.heap.size) := HZ2.out.below HB; have HB3 : Hid (Below w.heap.size w w3) := HB2.out.trans (HB.mono HB2.out.size); obtain ⟨x0, x1, x2, x3⟩ := HL3.out.head; have hbl := HL3.out.lt; obtain ⟨q0, q1, q2, q3, q4⟩ := HZ3.out; clear HB; have HD2 : Hid True := trivial)
    | (go_at_call 58; refine (HI1.out _).mono ?_; rintro e w2 ⟨rfl, HB⟩; have HL2 : Hid (Lie w2 b o (x :: r)) := HL1.out.below HB; have HZ2 : Hid (Zero4 w2 w.heap.size) := HZ1.out.below HB; have HB2 : Hid (Below w.heap.size w w2) := HB1.out.trans (HB.mono HB1.out.size); obtain ⟨x0, x1, x2, x3⟩ := HL2.out.head; have hbl := HL2.out.lt; obtain ⟨q0, q1, q2, q3, q4⟩ := HZ2.out; clear HB; have HD1 : Hid True := trivial)
    | (go_at_call 61; refine (HS.out _ (HL.out.alloc _)).mono ?_; rintro e w1 ⟨rfl, HB⟩; have HL1 : Hid (Lie w1 b o (x :: r)) := (HL.out.alloc _).below HB; have HZ1 : Hid (Zero4 w1 w.heap.size) := (Cell4.new w _ _ _ _ 24).below HB; have HB1 : Hid (Below w.heap.size w w1) := ((Below.refl _ _).alloc (Nat.le_refl _) _).trans (HB.mono (by rw [size_alloc]; omega)); obtain ⟨x0, x1, x2, x3⟩ := HL1.out.head; have hbl := HL1.out.lt; clear HB))
  refine bodyPost_ret (v := .agg #[.int .i64 tk, .int .i64 tn, .string ts, .slice ta tl tc]) (by simp [results, Try.results43, go_sem, q0, q1, q2, q3]) rfl ?_
  exact tpost_store HT3.out HB5.out
end
section
open Go.RowKit
set_option linter.unusedVariables false
/-- A block's cells. -/
def RowC (w : World) (g : Nat) (vs : Array Value) : Prop := ∀ i v, vs[i]? = some v → w.cell? ⟨g, i, none⟩ = some v
theorem RowC.new (w : World) (vs : Array Value) (t : TypeId) : RowC (w.alloc (.cells vs t)) w.heap.size vs := fun i v h => by
  rw [cell_of_row _ _ _ _ t (0, 0) (heap_alloc_new w (.cells vs t))]; exact h
theorem RowC.lt {w : World} {g : Nat} {vs : Array Value} (h : RowC w g vs) (hs : 0 < vs.size) : g < w.heap.size := World.block_lt_of_cell? w _ (h 0 _ (Array.getElem?_eq_getElem hs))
theorem RowC.below {w w' : World} {g : Nat} {vs : Array Value} (h : RowC w g vs) (hb : Below w.heap.size w w') : RowC w' g vs := fun i v hv => by
  have := h i v hv
  exact (hb.cell (p := ⟨g, i, none⟩) (World.block_lt_of_cell? _ _ this)).trans this
theorem RowC.set {w : World} {g : Nat} {vs : Array Value} (h : RowC w g vs) {p : Addr} (hp : g ≠ p.block) (x : Value) : RowC (w.setCell p x) g vs := fun i v hv => by
  have e := Below.heap_setCell w p x g hp
  have := h i v hv
  simp only [World.cell?] at this ⊢
  rw [e]; exact this
theorem tpost_node2 {w w2 : World} {k : Int} (hk : InR k) {g : Nat} (hg : w.heap.size < g) {yk yn : Int} {ys : ByteArray} {ya : Option Addr} {yl yc : Nat} {zk zn : Int} {zs : ByteArray} {za : Option Addr} {zl zc : Nat} {t1 t2 : Tr}
    (hy : Tre w2 (fun g => w.heap.size < g) (.agg #[.int .i64 yk, .int .i64 yn, .string ys, .slice ya yl yc]) t1) (hz : Tre w2 (fun g => w.heap.size < g) (.agg #[.int .i64 zk, .int .i64 zn, .string zs, .slice za zl zc]) t2)
    (hr : RowC w2 g #[.int .i64 yk, .int .i64 yn, .string ys, .slice ya yl yc, .int .i64 zk, .int .i64 zn, .string zs, .slice za zl zc]) (hb : Below w.heap.size w w2) :
    TPost w ⟨k, 0, [], [t1, t2]⟩ (.returned (.agg #[.int .i64 k, .int .i64 0, .string ⟨#[]⟩, .slice (some ⟨g, 0, none⟩) 2 2])) w2 :=
  ⟨⟨_, _, _, _, _, _, rfl, (Tre.node2 hk hy hz hg (hr 0 _ rfl) (hr 1 _ rfl) (hr 2 _ rfl) (hr 3 _ rfl) (hr 4 _ rfl) (hr 5 _ rfl) (hr 6 _ rfl) (hr 7 _ rfl)).sub fun g hg => Nat.le_of_lt hg⟩, hb⟩
/-- What stands while the node is made. -/
structure TwoN (w w' : World) (b o : Nat) (l : List W) (g1 g2 : Nat) (yk yn : Int) (ys : ByteArray) (ya : Option Addr) (yl yc : Nat) (zk zn : Int) (zs : ByteArray) (za : Option Addr) (zl zc : Nat) (t1 t2 : Tr) : Prop where
  lie : Lie w' b o l
  zero : Zero4 w' w.heap.size
  y : Cell4 w' g1 (.int .i64 yk) (.int .i64 yn) (.string ys) (.slice ya yl yc)
  z : Cell4 w' g2 (.int .i64 zk) (.int .i64 zn) (.string zs) (.slice za zl zc)
  ty : Tre w' (fun g => w.heap.size < g) (.agg #[.int .i64 yk, .int .i64 yn, .string ys, .slice ya yl yc]) t1
  tz : Tre w' (fun g => w.heap.size < g) (.agg #[.int .i64 zk, .int .i64 zn, .string zs, .slice za zl zc]) t2
  bel : Below w.heap.size w w'
theorem TwoN.below {w w' w'' : World} {b o : Nat} {l : List W} {g1 g2 : Nat} {yk yn : Int} {ys : ByteArray} {ya : Option Addr} {yl yc : Nat} {zk zn : Int} {zs : ByteArray} {za : Option Addr} {zl zc : Nat} {t1 t2 : Tr}
    (h : TwoN w w' b o l g1 g2 yk yn ys ya yl yc zk zn zs za zl zc t1 t2) (hb : Below w'.heap.size w' w'') : TwoN w w'' b o l g1 g2 yk yn ys ya yl yc zk zn zs za zl zc t1 t2 :=
  ⟨h.lie.below hb, h.zero.below hb, h.y.below hb, h.z.below hb, h.ty.below hb, h.tz.below hb, h.bel.trans (hb.mono h.bel.size)⟩
set_option maxRecDepth 100000 in
set_option maxHeartbeats 1000000 in
theorem tree_two (l : List W) (hlen : l.length ≤ 4096) (b o cap : Nat) (hcap : l.length ≤ cap) (k : Nat) (hk1 : 1 ≤ k) (hk : k + 1 < l.length) (w : World) (HL : Hid (Lie w b o l)) (t1 t2 : Tr)
    (HS : Hid (∀ w, Lie w b o l → Calls Try.prog 61 #[.slice (some ⟨b, o, none⟩) l.length cap] w fun e w' => e = .returned (.int .i64 k) ∧ Below w.heap.size w w'))
    (HT1 : Hid (∀ w, Lie w b o (l.take k) → Calls Try.prog 43 #[.slice (some ⟨b, o, none⟩) k cap] w (TPost w t1)))
    (HT2 : Hid (∀ w, Lie w b (o + (k + 1) * 4) (l.drop (k + 1)) → Calls Try.prog 43 #[.slice (some ⟨b, o + (k + 1) * 4, none⟩) (l.length - (k + 1)) (cap - (k + 1))] w (TPost w t2)))
    (HK : Hid (∀ w, Calls Try.prog 60 #[.agg #[.int .i64 (atL l k).kind, .string (ba (atL l k).text), .int .i64 (atL l k).n, .int .i64 (atL l k).pos]] w fun e w' => e = .returned (.int .i64 (kindW (atL l k))) ∧ Below w.heap.size w w')) :
    Calls Try.prog 43 #[.slice (some ⟨b, o, none⟩) l.length cap] w (TPost w ⟨kindW (atL l k), 0, [], [t1, t2]⟩) := by
  have hc1 : ¬ cap = k + 1 := by omega
  have hc2 : ¬ cap - (k + 1) = 0 := by omega
  go_enter Try.func43, Try.ntmps43
  go_wp2_with (first
    | (go_at_call 43; have := HD1; refine (HT2.out _ ((HL2.out.alloc _).drop _)).mono ?_; rintro e w3 ⟨⟨zk, zn, zs, za, zl, zc, rfl, HTr⟩, HB⟩; have HL3 : Hid (Lie w3 b o l) := (HL2.out.alloc _).below HB; have HZ3 : Hid (Zero4 w3 w.heap.size) := (HZ2.out.alloc _).below HB; have HY3 : Hid (Tre w3 (fun g => w.heap.size < g) (.agg #[.int .i64 yk, .int .i64 yn, .string ys, .slice ya yl yc]) t1) := (HY2.out.alloc _).below HB; have HC3 : Hid (Cell4 w3 w2.heap.size (.int .i64 yk) (.int .i64 yn) (.string ys) (.slice ya yl yc)) := (Cell4.new w2 _ _ _ _ 24).below HB; have HX3 : Hid (Tre w3 (fun g => w.heap.size < g) (.agg #[.int .i64 zk, .int .i64 zn, .string zs, .slice za zl zc]) t2) := HTr.sub (fun g hg => Nat.lt_of_lt_of_le (HZ2.out.alloc _).lt hg); have hs3 : w.heap.size < w2.heap.size ∧ w2.heap.size < w3.heap.size := ⟨HZ2.out.lt, HC3.out.lt⟩; have HB3 : Hid (Below w.heap.size w w3) := (HB2.out.alloc HB2.out.size _).trans (HB.mono (HB2.out.alloc HB2.out.size _).size); clear HB HTr)
    | (go_at_call 43; refine (HT1.out _ (HL1.out.take _)).mono ?_; rintro e w2 ⟨⟨yk, yn, ys, ya, yl, yc, rfl, HTr⟩, HB⟩; have HL2 : Hid (Lie w2 b o l) := HL1.out.below HB; have HZ2 : Hid (Zero4 w2 w.heap.size) := HZ1.out.below HB; have HB2 : Hid (Below w.heap.size w w2) := HB1.out.trans (HB.mono HB1.out.size); have HY2 : Hid (Tre w2 (fun g => w.heap.size < g) (.agg #[.int .i64 yk, .int .i64 yn, .string ys, .slice ya yl yc]) t1) := HTr.sub (fun g hg => Nat.lt_of_lt_of_le HZ1.out.lt hg); have HD1 : Hid True := trivial; clear HB HTr)
    | (go_at_call 61; refine (HS.out _ (HL.out.alloc _)).mono ?_; rintro e w1 ⟨rfl, HB⟩; have HL1 : Hid (Lie w1 b o l) := (HL.out.alloc _).below HB; have HZ1 : Hid (Zero4 w1 w.heap.size) := (Cell4.new w _ _ _ _ 24).below HB; have HB1 : Hid (Below w.heap.size w w1) := ((Below.refl _ _).alloc (Nat.le_refl _) _).trans (HB.mono (by rw [size_alloc]; omega)); clear HB))
  obtain ⟨w4, hw4⟩ : ∃ w4, w4 = w3.alloc (.cells #[.int .i64 zk, .int .i64 zn, .string zs, .slice za zl zc] 24) := ⟨_, rfl⟩
  rw [← hw4]
  have H4 : Hid (TwoN w w4 b o l w2.heap.size w3.heap.size yk yn ys ya yl yc zk zn zs za zl zc t1 t2) := by
    rw [hw4]
    exact ⟨HL3.out.alloc _, HZ3.out.alloc _, HC3.out.alloc _, Cell4.new w3 _ _ _ _ 24, HY3.out.alloc _, HX3.out.alloc _, HB3.out.alloc HB3.out.size _⟩
  have HQ : Hid (∀ W, Below w4.heap.size w4 W → TwoN w W b o l w2.heap.size w3.heap.size yk yn ys ya yl yc zk zn zs za zl zc t1 t2) := fun W h => H4.out.below h
  clear hw4 HL1 HL2 HL3 HZ1 HZ2 HZ3 HB1 HB2 HB3 HY2 HY3 HC3 HX3 HD1 HS HT1 HT2
  obtain ⟨x0, x1, x2, x3⟩ := H4.out.lie k (by omega)
  obtain ⟨q0, q1, q2, q3, q4⟩ := H4.out.zero
  obtain ⟨y0, y1, y2, y3, y4⟩ := H4.out.y
  obtain ⟨z0, z1, z2, z3, z4⟩ := H4.out.z
  have hn1 := H4.out.zero.lt
  have hn2 := H4.out.y.lt
  have hn3 := H4.out.z.lt
  have hbl : b < w4.heap.size := World.block_lt_of_cell? w4 _ x0
  have hkk : k < l.length := by omega
  have hb0 : b < w.heap.size := World.block_lt_of_cell? w _ (HL.out k hkk).c0
  have hn0 := hn1
  have hkw : kindW (atL l k) ≤ 14 := by have h0 := nextK_range [atL l k]; have e : nextK [atL l k] = kindW (atL l k) := rfl; omega
  have hne1 : ¬ b = w.heap.size := by omega
  have hne2 : ¬ w2.heap.size = w.heap.size := by omega
  have hne3 : ¬ w3.heap.size = w.heap.size := by omega
  have hne4 : ¬ w.heap.size = b := by omega
  have hne5 : ¬ w.heap.size = w2.heap.size := by omega
  have hne6 : ¬ w.heap.size = w3.heap.size := by omega
  go_region_held3 (fun w' => w'.cell? ⟨b, o + k * 4, none⟩ = some (.int .i64 (atL l k).kind) ∧ w'.cell? ⟨b, o + k * 4 + 1, none⟩ = some (.string (ba (atL l k).text)) ∧ w'.cell? ⟨b, o + k * 4 + 2, none⟩ = some (.int .i64 (atL l k).n) ∧ w'.cell? ⟨b, o + k * 4 + 3, none⟩ = some (.int .i64 (atL l k).pos) ∧ w'.cell? ⟨w2.heap.size, 0, none⟩ = some (.int .i64 yk) ∧ w'.cell? ⟨w2.heap.size, 1, none⟩ = some (.int .i64 yn) ∧ w'.cell? ⟨w2.heap.size, 2, none⟩ = some (.string ys) ∧ w'.cell? ⟨w2.heap.size, 3, none⟩ = some (.slice ya yl yc) ∧ w'.cell? ⟨w3.heap.size, 0, none⟩ = some (.int .i64 zk) ∧ w'.cell? ⟨w3.heap.size, 1, none⟩ = some (.int .i64 zn) ∧ w'.cell? ⟨w3.heap.size, 2, none⟩ = some (.string zs) ∧ w'.cell? ⟨w3.heap.size, 3, none⟩ = some (.slice za zl zc)) (go_keep) (first
    | (go_at_call 60; refine (HK.out _).mono ?_; rintro e w5 ⟨rfl, HB⟩; have HB5 : Hid (Below w4.heap.size w4 w5) := (Below.drew (Below.refl _ w4)).trans HB; obtain ⟨x0, x1, x2, x3⟩ := (HQ.out _ HB5.out).lie k hkk; obtain ⟨q0, q1, q2, q3, q4⟩ := (HQ.out _ HB5.out).zero; obtain ⟨y0, y1, y2, y3, y4⟩ := (HQ.out _ HB5.out).y; obtain ⟨z0, z1, z2, z3, z4⟩ := (HQ.out _ HB5.out).z; have hn1 := (HQ.out _ HB5.out).zero.lt; have hn2 := (HQ.out _ HB5.out).y.lt; have hn3 := (HQ.out _ HB5.out).z.lt; clear HB)
    | (go_at_call 60; refine (HK.out _).mono ?_; rintro e w5 ⟨rfl, HB⟩; have HB5 : Hid (Below w4.heap.size w4 w5) := (Below.drew ((Below.refl _ w4).alloc (Nat.le_refl _) _)).trans (HB.mono (by show w4.heap.size ≤ (w4.alloc _).heap.size; rw [size_alloc]; exact Nat.le_succ _)); have HRo : Hid (RowC w5 w4.heap.size #[.int .i64 yk, .int .i64 yn, .string ys, .slice ya yl yc, .int .i64 zk, .int .i64 zn, .string zs, .slice za zl zc]) := (show RowC (w4.alloc _).drew w4.heap.size _ from RowC.new w4 _ 24).below HB; obtain ⟨x0, x1, x2, x3⟩ := (HQ.out _ HB5.out).lie k hkk; obtain ⟨q0, q1, q2, q3, q4⟩ := (HQ.out _ HB5.out).zero; obtain ⟨y0, y1, y2, y3, y4⟩ := (HQ.out _ HB5.out).y; obtain ⟨z0, z1, z2, z3, z4⟩ := (HQ.out _ HB5.out).z; have hn1 := (HQ.out _ HB5.out).zero.lt; have hn2 := (HQ.out _ HB5.out).y.lt; have hn3 := (HQ.out _ HB5.out).z.lt; clear HB))
  all_goals go_wp2_with fail
  all_goals first
    | (have := HRo
       refine bodyPost_ret (v := .agg #[.int .i64 (kindW (atL l k)), .int .i64 0, .string ⟨#[]⟩, .slice (some ⟨w4.heap.size, 0, none⟩) 2 2]) (by simp [results, Try.results43, go_sem, q0, q1, q2, q3]) rfl ?_
       have T := HQ.out _ HB5.out
       have hg : w4.heap.size ≠ w.heap.size := by omega
       exact tpost_node2 ⟨by omega, by omega⟩ hn0 ((((T.ty.set (Nat.lt_irrefl _) _).set (Nat.lt_irrefl _) _).set (Nat.lt_irrefl _) _).set (Nat.lt_irrefl _) _) ((((T.tz.set (Nat.lt_irrefl _) _).set (Nat.lt_irrefl _) _).set (Nat.lt_irrefl _) _).set (Nat.lt_irrefl _) _) ((((HRo.out.set hg _).set hg _).set hg _).set hg _) ((((T.bel.setCell (Nat.le_refl _) _).setCell (Nat.le_refl _) _).setCell (Nat.le_refl _) _).setCell (Nat.le_refl _) _))
    | (refine bodyPost_ret (v := .agg #[.int .i64 (kindW (atL l k)), .int .i64 0, .string ⟨#[]⟩, .slice (some ⟨w5.heap.size, 0, none⟩) 2 2]) (by simp [results, Try.results43, go_sem, q0, q1, q2, q3, hn1]) rfl ?_
       have T := HQ.out _ HB5.out
       have hB := ((((T.bel.setCell (p := ⟨w.heap.size, 0, none⟩) (Nat.le_refl _) (.int .i64 (kindW (atL l k)))).setCell (p := ⟨w.heap.size, 1, none⟩) (Nat.le_refl _) (.int .i64 0)).setCell (p := ⟨w.heap.size, 2, none⟩) (Nat.le_refl _) (.string ⟨#[]⟩)).setCell (p := ⟨w.heap.size, 3, none⟩) (Nat.le_refl _) (.slice (some ⟨w5.heap.size, 0, none⟩) 2 2))
       refine tpost_node2 ⟨by omega, by omega⟩ hn1 ((((((T.ty.set (Nat.lt_irrefl _) _).set (Nat.lt_irrefl _) _).set (Nat.lt_irrefl _) _).set (Nat.lt_irrefl _) _)).alloc _) ((((((T.tz.set (Nat.lt_irrefl _) _).set (Nat.lt_irrefl _) _).set (Nat.lt_irrefl _) _).set (Nat.lt_irrefl _) _)).alloc _) ?_ (hB.alloc hB.size _)
       have hr := RowC.new ((((w5.setCell ⟨w.heap.size, 0, none⟩ (.int .i64 (kindW (atL l k)))).setCell ⟨w.heap.size, 1, none⟩ (.int .i64 0)).setCell ⟨w.heap.size, 2, none⟩ (.string ⟨#[]⟩)).setCell ⟨w.heap.size, 3, none⟩ (.slice (some ⟨w5.heap.size, 0, none⟩) 2 2)) #[.int .i64 yk, .int .i64 yn, .string ys, .slice ya yl yc, .int .i64 zk, .int .i64 zn, .string zs, .slice za zl zc] 24
       rw [setsz, setsz, setsz, setsz] at hr
       exact hr)
end
section
open Go.RowKit
set_option linter.unusedVariables false
theorem treeN_nil : ∀ f, treeN f [] = zeroT
  | 0 => rfl
  | _ + 1 => rfl
theorem best_some {l : List W} {k : Nat} (h : splitM l = some k) : bestI (goG l l.length).best = k ∧ k < l.length := by
  rw [← goG_all] at h
  cases hb : (goG l l.length).best with
  | none => rw [hb] at h; cases h
  | some x =>
    rw [hb] at h
    have h' : some x.1 = some k := h
    injection h' with h'
    have := (all_gone l l.length (Nat.le_refl _)).best x hb
    exact ⟨by show (x.1 : Int) = k; rw [h'], by omega⟩
theorem best_none {l : List W} (h : splitM l = none) : bestI (goG l l.length).best = -1 := by
  rw [← goG_all] at h
  cases hb : (goG l l.length).best with
  | none => rfl
  | some x => rw [hb] at h; cases h
theorem atL_mem {l : List W} {i : Nat} (h : i < l.length) : atL l i ∈ l := by
  unfold atL; rw [List.getD_eq_getElem?_getD, List.getElem?_eq_getElem h]; exact List.getElem_mem h
theorem tree_any : ∀ (f : Nat) (l : List W) (t : Tr), (∀ x ∈ l, Wok x) → KT t → treeN f l = t → l.length ≤ 4096 → ∀ (b o cap : Nat) (w : World), l.length ≤ cap → Lie w b o l →
    Calls Try.prog 43 #[.slice (some ⟨b, o, none⟩) l.length cap] w (TPost w t)
  | 0, l, t, _, hk, ht, _, _, _, _, _, _, _ => absurd ht.symm hk.ne
  | f + 1, [], t, _, hk, ht, _, _, _, _, _, _, _ => absurd ht.symm hk.ne
  | f + 1, x :: r, t, hok, hk, ht, hlen, b, o, cap, w, hcap, hL => by
    have hs : ∀ w, Lie w b o (x :: r) → Calls Try.prog 61 #[.slice (some ⟨b, o, none⟩) (x :: r).length cap] w fun e w' => e = .returned (.int .i64 (bestI (goG (x :: r) (x :: r).length).best)) ∧ Below w.heap.size w w' :=
      fun w h => rsp_any (x :: r) hlen (fun i hi => (hok _ (atL_mem hi)).1) b o cap hcap w h
    have hr : r.length < 4096 := by simp at hlen; omega
    have hc : r.length + 1 ≤ cap := by simpa using hcap
    cases hsp : splitM (x :: r) with
    | some k =>
      have ht' : (⟨kindW (atL (x :: r) k), 0, [], [treeN f ((x :: r).take k), treeN f ((x :: r).drop (k + 1))]⟩ : Tr) = t := by
        rw [← ht]
        show _ = (match splitM (x :: r) with | some k => _ | none => _)
        rw [hsp]; rfl
      obtain ⟨hb, hkl⟩ := best_some hsp
      rw [hb] at hs
      subst ht'
      have k1 : KT (treeN f ((x :: r).take k)) := hk.kid (by simp)
      have k2 : KT (treeN f ((x :: r).drop (k + 1))) := hk.kid (by simp)
      have h1 : 1 ≤ k := by
        rcases Nat.eq_zero_or_pos k with h | h
        · subst h; exact absurd (treeN_nil f) k1.ne
        · exact h
      have h2 : k + 1 < (x :: r).length := by
        rcases Nat.lt_or_ge (k + 1) (x :: r).length with h | h
        · exact h
        · rw [List.drop_eq_nil_of_le h] at k2; exact absurd (treeN_nil f) k2.ne
      have l1 : ((x :: r).take k).length = k := by rw [List.length_take]; omega
      have l2 : ((x :: r).drop (k + 1)).length = (x :: r).length - (k + 1) := List.length_drop
      refine tree_two (x :: r) hlen b o cap hcap k h1 h2 w hL _ _ hs (fun w h => ?_) (fun w h => ?_) (kind_as (hok _ (atL_mem hkl)).1 rfl)
      · have := tree_any f _ _ (fun y hy => hok y (List.mem_of_mem_take hy)) k1 rfl (by rw [l1]; omega) b o cap w (by rw [l1]; omega) h
        rw [l1] at this; exact this
      · have := tree_any f _ _ (fun y hy => hok y (List.mem_of_mem_drop hy)) k2 rfl (by rw [l2]; omega) b _ (cap - (k + 1)) w (by rw [l2]; omega) h
        rw [l2] at this; exact this
    | none =>
      have ht' : nodeH (treeN f) (x :: r) = t := by
        rw [← ht]
        show _ = (match splitM (x :: r) with | some k => _ | none => _)
        rw [hsp]
      rw [best_none hsp] at hs
      have ht2 : (if isW x 45 then ⟨5, 0, [], [treeN f r]⟩ else if isW x 33 then ⟨6, 0, [], [treeN f r]⟩ else if isW x 40 then treeN f r.dropLast else if x.kind = 1 then ⟨1, x.n, [], []⟩ else named x.text) = t := ht'
      have hox := hok x (List.mem_cons_self ..)
      have hor : ∀ y ∈ r, Wok y := fun y hy => hok y (List.mem_cons_of_mem _ hy)
      by_cases h45 : isW x 45 = true
      · rw [if_pos h45] at ht2
        subst ht2
        have k1 : KT (treeN f r) := hk.kid (by simp)
        have hr1 : 1 ≤ r.length := by
          cases r with
          | nil => exact absurd (treeN_nil f) k1.ne
          | cons _ _ => simp
        exact tree_neg x r hr b o cap hc w hL hs hr1 _ h45 (fun w h => tree_any f r _ hor k1 rfl (by omega) b _ _ w (by omega) h)
      rw [if_neg h45] at ht2
      by_cases h33 : isW x 33 = true
      · rw [if_pos h33] at ht2
        subst ht2
        have k1 : KT (treeN f r) := hk.kid (by simp)
        have hr1 : 1 ≤ r.length := by
          cases r with
          | nil => exact absurd (treeN_nil f) k1.ne
          | cons _ _ => simp
        exact tree_not x r hr b o cap hc w hL hs hr1 _ h33 (fun w h => tree_any f r _ hor k1 rfl (by omega) b _ _ w (by omega) h)
      rw [if_neg h33] at ht2
      by_cases h40 : isW x 40 = true
      · rw [if_pos h40] at ht2
        have hr1 : 2 ≤ r.length := by
          rcases Nat.lt_or_ge 1 r.length with h | h
          · exact h
          · have e : r.dropLast = [] := by
              match r, h with
              | [], _ => rfl
              | [a], _ => rfl
            rw [e, treeN_nil] at ht2
            exact absurd ht2.symm hk.ne
        have ld : r.dropLast.length = r.length - 1 := List.length_dropLast
        refine tree_in x r hr b o cap hc w hL hs hr1 t h40 (fun w h => ?_)
        have := tree_any f r.dropLast t (fun y hy => hor y (List.mem_of_mem_take (by rw [List.dropLast_eq_take] at hy; exact hy))) hk ht2 (by omega) b _ (cap - 1) w (by omega) h
        rw [ld] at this; exact this
      rw [if_neg h40] at ht2
      have b1 : isW x 45 = false := by simpa using h45
      have b2 : isW x 33 = false := by simpa using h33
      have b3 : isW x 40 = false := by simpa using h40
      by_cases h1 : x.kind = 1
      · rw [if_pos h1] at ht2
        subst ht2
        exact tree_num x r hr b o cap hc w hL hs h1 hox.2.1
      rw [if_neg h1] at ht2
      subst ht2
      unfold named
      by_cases hy : x.text = yesB
      · rw [if_pos hy]; exact tree_yes x r hr b o cap hc w hL hs h1 b1 b2 b3 hox.2.2.1 hy
      · rw [if_neg hy]
        by_cases hn : x.text = noB
        · rw [if_pos hn]; exact tree_no x r hr b o cap hc w hL hs h1 b1 b2 b3 hox.2.2.1 hy hn
        · rw [if_neg hn]; exact tree_var x r hr b o cap hc w hL hs h1 b1 b2 b3 hox.2.2.1 hy hn
end
section
open Go.RowKit
set_option linter.unusedVariables false
theorem WordsV.lie {w : World} {v : Value} {ws : List W} (h : WordsV w v ws) (hne : ws ≠ []) : ∃ b cap, v = .slice (some ⟨b, 0, none⟩) ws.length cap ∧ ws.length ≤ cap ∧ ws.length ≤ 4096 ∧ Lie w b 0 ws := by
  obtain ⟨a, cap, h1, h2, h3, h4⟩ := h
  rcases h4 with h | ⟨b, rfl, hc⟩
  · exact absurd h hne
  · exact ⟨b, cap, h1, h2, h3, fun i hi => by rw [Nat.zero_add]; exact hc i hi⟩
/-- Scan, of words. -/
def ScanS (ws : List W) (en se sp : Nat) : Prop := ∀ (w : World) (a : Option Addr) (cap : Nat), WordsV w (.slice a ws.length cap) ws → Calls Try.prog 42 #[.slice a ws.length cap, .int .i64 en] w fun e w' => e = .returned (faultV se sp) ∧ Below w.heap.size w w'
set_option maxRecDepth 100000 in
set_option maxHeartbeats 800000 in
theorem rparse_tree (s : ByteArray) (hm : s.size ≤ 9223372036854775807) (o : Out) (he : o.err = 0) (hne : o.ws ≠ []) (t : Tr) (w : World)
    (HC : Hid (∀ w, Calls Try.prog 41 #[.string s] w fun e w' => ∃ v, e = .returned (.tuple #[v, faultV o.err o.pos]) ∧ WordsV w' v o.ws ∧ Below w.heap.size w w'))
    (HSc : Hid (ScanS o.ws s.size 0 0))
    (HTr : Hid (∀ (w : World) (b cap : Nat), o.ws.length ≤ cap → Lie w b 0 o.ws → Calls Try.prog 43 #[.slice (some ⟨b, 0, none⟩) o.ws.length cap] w (TPost w t))) :
    Calls Try.prog 25 #[.string s] w (PPost w (if checkM 16 t ≠ 0 then ⟨zeroT, checkM 16 t, 0⟩ else ⟨t, 0, 0⟩)) := by
  unfold ScanS at HSc
  unfold faultV at HC HSc
  rw [he] at HC
  generalize o.pos = F at *
  generalize o.ws = ws at *
  have HCk : Hid (∀ k n s a l c w', Tre w' (fun g => w.heap.size + 1 < g) (.agg #[.int .i64 k, .int .i64 n, .string s, .slice a l c]) t → Calls Try.prog 32 #[.agg #[.int .i64 k, .int .i64 n, .string s, .slice a l c]] w' fun e w'' => e = .returned (.int .i64 (checkM 16 t)) ∧ Below w'.heap.size w' w'') := fun k n s a l c w' h => RCheck_any _ t k n s a l c w' h
  generalize checkM 16 t = ck at *
  by_cases hck : ck = 0
  · subst hck
    rw [if_neg (fun h => h rfl)]
    go_enter Try.func25, Try.ntmps25
    go_wp2_with (first
      | (go_at_call 32; refine (HCk.out _ _ _ _ _ _ _ (HT3.out.alloc _)).mono ?_; rintro e w4 ⟨rfl, HB⟩; obtain ⟨⟨q0, q1, q2, q3, q4⟩, q5, q6, q7⟩ := (HW3.out.alloc _).below HB; have hl : w.heap.size + 1 < w4.heap.size := ((HW3.out.alloc _).below HB).lt; obtain ⟨p0, p1, p2, p3, p4⟩ := (Cell4.new w3 (.int .i64 tk) (.int .i64 tn) (.string ts) (.slice ta tl tc) 24).below HB; have HT4 : Hid (Tre w4 (fun g => w.heap.size + 1 < g) (.agg #[.int .i64 tk, .int .i64 tn, .string ts, .slice ta tl tc]) t) := (HT3.out.alloc _).below HB; have HB4 : Hid (Below w.heap.size w w4) := (HB3.out.alloc HB3.out.size _).trans (HB.mono (Nat.le_trans HB3.out.size (le_alloc _ _))); clear HB)
      | (go_at_call 43; refine (HTr.out _ b cap hcap (HL2.out.alloc _)).mono ?_; rintro e w3 ⟨⟨tk, tn, ts, ta, tl, tc, rfl, HT'⟩, HB⟩; have HT3 : Hid (Tre w3 (fun g => w.heap.size + 1 < g) (.agg #[.int .i64 tk, .int .i64 tn, .string ts, .slice ta tl tc]) t) := HT'.sub (fun g hg => Nat.lt_of_lt_of_le (HT2.out.alloc _).lt hg); have HW3 : Hid (Two w3 w.heap.size) := (HT2.out.alloc _).below HB; have HB3 : Hid (Below w.heap.size w w3) := (HB2.out.alloc HB2.out.size _).trans (HB.mono (Nat.le_trans HB2.out.size (le_alloc _ _))); clear HB HT')
      | (go_at_call 42; refine (HSc.out _ _ _ (HV1.out.below ((Below.refl _ _).alloc (Nat.le_refl _) _))).mono ?_; rintro e w2 ⟨rfl, HB⟩; have HT2 : Hid (Two w2 w.heap.size) := (HT1.out.alloc _).below HB; have HV2 : Hid (WordsV w2 (.slice (some ⟨b, 0, none⟩) ws.length cap) ws) := (HV1.out.below ((Below.refl _ _).alloc (Nat.le_refl _) _)).below HB; have HB2 : Hid (Below w.heap.size w w2) := (HB1.out.alloc HB1.out.size _).trans (HB.mono (Nat.le_trans HB1.out.size (le_alloc _ _))); obtain ⟨⟨q0, q1, q2, q3, q4⟩, q5, q6, q7⟩ := HT2.out; have hl : w.heap.size + 1 < w2.heap.size := HT2.out.lt; have HL2 : Hid (Lie w2 b 0 ws) := (HL1.out.alloc _).below HB; clear HB)
      | (go_at_call 41; refine (HC.out _).mono ?_; rintro e w1 ⟨v, rfl, HV, HB⟩; obtain ⟨b, cap, rfl, hcap, _, HLi⟩ := HV.lie hne; have HV1 : Hid (WordsV w1 (.slice (some ⟨b, 0, none⟩) ws.length cap) ws) := HV; have HL1 : Hid (Lie w1 b 0 ws) := HLi; have HT1 : Hid (Two w1 w.heap.size) := (two_new w).below HB; have HB1 : Hid (Below w.heap.size w w1) := (((Below.refl _ _).alloc (Nat.le_refl _) _).alloc (le_alloc _ _) _).trans (HB.mono (by rw [size_alloc, size_alloc]; omega)); clear HB HV HLi))
    refine bodyPost_ret (v := .tuple #[.agg #[.int .i64 tk, .int .i64 tn, .string ts, .slice ta tl tc], .agg #[.int .i64 0, .int .i64 0]]) (by simp [results, Try.results25, go_sem, q0, q1, q2, q3, q5, q6]) rfl ⟨⟨_, _, _, _, _, _, rfl, six_tre HT4.out _ _ _ _ _ _⟩, ?_⟩
    exact six_below HB4.out _ _ _ _ _ _
  · rw [if_pos hck]
    have hck2 : ¬ (ck : Int) = 0 := by omega
    go_enter Try.func25, Try.ntmps25
    go_wp2_with (first
      | (go_at_call 32; refine (HCk.out _ _ _ _ _ _ _ (HT3.out.alloc _)).mono ?_; rintro e w4 ⟨rfl, HB⟩; obtain ⟨⟨q0, q1, q2, q3, q4⟩, q5, q6, q7⟩ := (HW3.out.alloc _).below HB; have hl : w.heap.size + 1 < w4.heap.size := ((HW3.out.alloc _).below HB).lt; obtain ⟨p0, p1, p2, p3, p4⟩ := (Cell4.new w3 (.int .i64 tk) (.int .i64 tn) (.string ts) (.slice ta tl tc) 24).below HB; have HT4 : Hid (Tre w4 (fun g => w.heap.size + 1 < g) (.agg #[.int .i64 tk, .int .i64 tn, .string ts, .slice ta tl tc]) t) := (HT3.out.alloc _).below HB; have HB4 : Hid (Below w.heap.size w w4) := (HB3.out.alloc HB3.out.size _).trans (HB.mono (Nat.le_trans HB3.out.size (le_alloc _ _))); clear HB)
      | (go_at_call 43; refine (HTr.out _ b cap hcap (HL2.out.alloc _)).mono ?_; rintro e w3 ⟨⟨tk, tn, ts, ta, tl, tc, rfl, HT'⟩, HB⟩; have HT3 : Hid (Tre w3 (fun g => w.heap.size + 1 < g) (.agg #[.int .i64 tk, .int .i64 tn, .string ts, .slice ta tl tc]) t) := HT'.sub (fun g hg => Nat.lt_of_lt_of_le (HT2.out.alloc _).lt hg); have HW3 : Hid (Two w3 w.heap.size) := (HT2.out.alloc _).below HB; have HB3 : Hid (Below w.heap.size w w3) := (HB2.out.alloc HB2.out.size _).trans (HB.mono (Nat.le_trans HB2.out.size (le_alloc _ _))); clear HB HT')
      | (go_at_call 42; refine (HSc.out _ _ _ (HV1.out.below ((Below.refl _ _).alloc (Nat.le_refl _) _))).mono ?_; rintro e w2 ⟨rfl, HB⟩; have HT2 : Hid (Two w2 w.heap.size) := (HT1.out.alloc _).below HB; have HV2 : Hid (WordsV w2 (.slice (some ⟨b, 0, none⟩) ws.length cap) ws) := (HV1.out.below ((Below.refl _ _).alloc (Nat.le_refl _) _)).below HB; have HB2 : Hid (Below w.heap.size w w2) := (HB1.out.alloc HB1.out.size _).trans (HB.mono (Nat.le_trans HB1.out.size (le_alloc _ _))); obtain ⟨⟨q0, q1, q2, q3, q4⟩, q5, q6, q7⟩ := HT2.out; have hl : w.heap.size + 1 < w2.heap.size := HT2.out.lt; have HL2 : Hid (Lie w2 b 0 ws) := (HL1.out.alloc _).below HB; clear HB)
      | (go_at_call 41; refine (HC.out _).mono ?_; rintro e w1 ⟨v, rfl, HV, HB⟩; obtain ⟨b, cap, rfl, hcap, _, HLi⟩ := HV.lie hne; have HV1 : Hid (WordsV w1 (.slice (some ⟨b, 0, none⟩) ws.length cap) ws) := HV; have HL1 : Hid (Lie w1 b 0 ws) := HLi; have HT1 : Hid (Two w1 w.heap.size) := (two_new w).below HB; have HB1 : Hid (Below w.heap.size w w1) := (((Below.refl _ _).alloc (Nat.le_refl _) _).alloc (le_alloc _ _) _).trans (HB.mono (by rw [size_alloc, size_alloc]; omega)); clear HB HV HLi))
    refine bodyPost_ret (v := .tuple #[.agg #[.int .i64 0, .int .i64 0, .string ⟨#[]⟩, .slice none 0 0], .agg #[.int .i64 ck, .int .i64 0]]) (by simp [results, Try.results25, go_sem, q0, q1, q2, q3, q5, q6]) rfl ⟨⟨_, _, _, _, _, _, rfl, Tre.leaf _ _ inR_zero inR_zero [] (Nat.zero_le _)⟩, ?_⟩
    exact six_below HB4.out _ _ _ _ _ _
end
end Go.Proofs.Ytfjphlejhcdbaaa
