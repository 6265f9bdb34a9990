/-
  The document's Tree: contracts.
-/
import Derived.Test.YtlfeejjlcclbdaaDoorSpl
import Derived.Test.YtlfeejjlcclbdaaDoorKt
import Derived.Test.YtlfeejjlcclbdaaDoorOper
namespace Go.Proofs.YtlfeejjlcclbdaaDoor
open Go.RowKit
set_option linter.unusedVariables false


/-- What making a tree leaves. -/
def TPost (w : World) (t : Tr) (e : Ending) (w' : World) : Prop :=
  (∃ (k n : Int) (s : ByteArray) (a : Option Addr) (l c : Nat), e = .returned (.agg #[.int .i64 k, .int .i64 n, .string s, .slice a l c]) ∧ Tre w' (fun g => w.heap.size ≤ g) (.agg #[.int .i64 k, .int .i64 n, .string s, .slice a l c]) t) ∧ Below w.heap.size w w'
theorem tpost_store {w w2 : World} {t : Tr} {v0 v1 v2 v3 : Value} (h : Tre w2 (fun g => w.heap.size < g) (.agg #[v0, v1, v2, v3]) t) (hf : Below w.heap.size w w2) :
    TPost w t (.returned (.agg #[v0, v1, v2, v3])) ((((w2.setCell ⟨w.heap.size, 0, none⟩ v0).setCell ⟨w.heap.size, 1, none⟩ v1).setCell ⟨w.heap.size, 2, none⟩ v2).setCell ⟨w.heap.size, 3, none⟩ v3) := by
  have ne : ∀ i, ¬ (fun g => w.heap.size < g) (⟨w.heap.size, i, none⟩ : Addr).block := fun i => Nat.lt_irrefl _
  have h2 := ((((((h.set (ne 0) v0).set (ne 1) v1).set (ne 2) v2).set (ne 3) v3)).sub fun g hg => Nat.le_of_lt hg)
  refine ⟨?_, (((hf.setCell (p := ⟨w.heap.size, 0, none⟩) (Nat.le_refl _) _).setCell (p := ⟨w.heap.size, 1, none⟩) (Nat.le_refl _) _).setCell (p := ⟨w.heap.size, 2, none⟩) (Nat.le_refl _) _).setCell (p := ⟨w.heap.size, 3, none⟩) (Nat.le_refl _) _⟩
  obtain ⟨a, c, e⟩ := h2.four
  refine ⟨t.kind, t.n, ba t.name, a, t.kids.length, c, by rw [e], ?_⟩
  rw [← e]; exact h2
theorem Lie.head {w : World} {b o : Nat} {x : W} {r : List W} (h : Lie w b o (x :: r)) : WAt w b o x := by
  have := h 0 (Nat.succ_pos _); rw [Nat.zero_mul, Nat.add_zero] at this; exact this
theorem Lie.tail {w : World} {b o : Nat} {x : W} {r : List W} (h : Lie w b o (x :: r)) : Lie w b (o + 4) r := fun i hi => by
  have := h (i + 1) (Nat.succ_lt_succ hi)
  rw [show o + (i + 1) * 4 = o + 4 + i * 4 by omega] at this; exact this
theorem Lie.alloc {w : World} {b o : Nat} {l : List W} (h : Lie w b o l) (x : Obj) : Lie (w.alloc x) b o l := h.below ((Below.refl _ _).alloc (Nat.le_refl _) x)
theorem Lie.lt {w : World} {b o : Nat} {x : W} {r : List W} (h : Lie w b o (x :: r)) : b < w.heap.size := World.block_lt_of_cell? w _ h.head.c0
theorem Lie.take {w : World} {b o : Nat} {l : List W} (h : Lie w b o l) (k : Nat) : Lie w b o (l.take k) := fun i hi => by
  rw [List.length_take] at hi
  have := h i (by omega)
  have e : atL (l.take k) i = atL l i := by unfold atL; rw [List.getD_eq_getElem?_getD, List.getD_eq_getElem?_getD, List.getElem?_take_of_lt (by omega)]
  rw [e]; exact this
theorem Lie.drop {w : World} {b o : Nat} {l : List W} (h : Lie w b o l) (k : Nat) : Lie w b (o + k * 4) (l.drop k) := fun i hi => by
  rw [List.length_drop] at hi
  have := h (k + i) (by omega)
  have e : atL (l.drop k) i = atL l (k + i) := by unfold atL; rw [List.getD_eq_getElem?_getD, List.getD_eq_getElem?_getD, List.getElem?_drop]
  rw [e, show o + k * 4 + i * 4 = o + (k + i) * 4 by omega]; exact this
theorem setsz (w : World) (p : Addr) (v : Value) : (w.setCell p v).heap.size = w.heap.size := by simp
/-- The result's four cells are set, and a row of one kid is made, behind one more variable. -/
theorem tpost_node1 {w w2 : World} {t : Tr} {v0 v1 v2 v3 : Value} {k : Int} (hk : InR k) (X : Obj) (h : Tre w2 (fun g => w.heap.size < g) (.agg #[v0, v1, v2, v3]) t) (hf : Below w.heap.size w w2) (hl2 : w.heap.size < w2.heap.size) :
    TPost w ⟨k, 0, [], [t]⟩ (.returned (.agg #[.int .i64 k, .int .i64 0, .string ⟨#[]⟩, .slice (some ⟨w2.heap.size + 1, 0, none⟩) 1 1]))
      ((((((w2.setCell ⟨w.heap.size, 0, none⟩ (.int .i64 k)).setCell ⟨w.heap.size, 1, none⟩ (.int .i64 0)).setCell ⟨w.heap.size, 2, none⟩ (.string ⟨#[]⟩)).setCell ⟨w.heap.size, 3, none⟩ (.slice (some ⟨w2.heap.size + 1, 0, none⟩) 1 1)).alloc X).alloc (.cells #[v0, v1, v2, v3] 25)) := by
  have ne : ∀ i, ¬ (fun g => w.heap.size < g) (⟨w.heap.size, i, none⟩ : Addr).block := fun i => Nat.lt_irrefl _
  have hT := (((h.set (ne 0) (.int .i64 k)).set (ne 1) (.int .i64 0)).set (ne 2) (.string ⟨#[]⟩)).set (ne 3) (.slice (some ⟨w2.heap.size + 1, 0, none⟩) 1 1)
  have hF := (((hf.setCell (p := ⟨w.heap.size, 0, none⟩) (Nat.le_refl _) (.int .i64 k)).setCell (p := ⟨w.heap.size, 1, none⟩) (Nat.le_refl _) (.int .i64 0)).setCell (p := ⟨w.heap.size, 2, none⟩) (Nat.le_refl _) (.string ⟨#[]⟩)).setCell (p := ⟨w.heap.size, 3, none⟩) (Nat.le_refl _) (.slice (some ⟨w2.heap.size + 1, 0, none⟩) 1 1)
  have hS : ((((w2.setCell ⟨w.heap.size, 0, none⟩ (.int .i64 k)).setCell ⟨w.heap.size, 1, none⟩ (.int .i64 0)).setCell ⟨w.heap.size, 2, none⟩ (.string ⟨#[]⟩)).setCell ⟨w.heap.size, 3, none⟩ (.slice (some ⟨w2.heap.size + 1, 0, none⟩) 1 1)).heap.size = w2.heap.size := by rw [setsz, setsz, setsz, setsz]
  generalize (((w2.setCell ⟨w.heap.size, 0, none⟩ (.int .i64 k)).setCell ⟨w.heap.size, 1, none⟩ (.int .i64 0)).setCell ⟨w.heap.size, 2, none⟩ (.string ⟨#[]⟩)).setCell ⟨w.heap.size, 3, none⟩ (.slice (some ⟨w2.heap.size + 1, 0, none⟩) 1 1) = w3 at *
  have c4 := Cell4.new (w3.alloc X) v0 v1 v2 v3 25
  rw [size_alloc, hS] at c4
  have hF2 := (hF.alloc hF.size X)
  exact ⟨⟨_, _, _, _, _, _, rfl, (Tre.node1 hk ((hT.alloc X).alloc _) (Nat.lt_succ_of_lt hl2) c4.c0 c4.c1 c4.c2 c4.c3).sub fun g hg => Nat.le_of_lt hg⟩, hF2.alloc hF2.size _⟩
set_option maxRecDepth 100000 in
set_option maxHeartbeats 1000000 in
theorem tree_num (x : W) (r : List W) (hlen : r.length < 4096) (b o cap : Nat) (hcap : r.length + 1 ≤ cap) (w : World) (HL : Hid (Lie w b o (x :: r)))
    (HS : Hid (∀ w, Lie w b o (x :: r) → Calls Tryd.prog 34 #[.slice (some ⟨b, o, none⟩) (r.length + 1) cap] w fun e w' => e = .returned (.int .i64 (-1)) ∧ Below w.heap.size w w'))
    (hk : x.kind = 1) (hn : x.n < 9223372036854775808) :
    Calls Tryd.prog 22 #[.slice (some ⟨b, o, none⟩) (r.length + 1) cap] w (TPost w ⟨1, x.n, [], []⟩) := by
  have HI1 : Hid (∀ w, Calls Tryd.prog 31 #[.agg #[.int .i64 x.kind, .string (ba x.text), .int .i64 x.n, .int .i64 x.pos], .string ⟨#[45]⟩] w fun e w' => e = .returned (.bool false) ∧ Below w.heap.size w w') := is_as (isW_no (by omega))
  have HI2 : Hid (∀ w, Calls Tryd.prog 31 #[.agg #[.int .i64 x.kind, .string (ba x.text), .int .i64 x.n, .int .i64 x.pos], .string ⟨#[33]⟩] w fun e w' => e = .returned (.bool false) ∧ Below w.heap.size w w') := is_as (isW_no (by omega))
  have HI3 : Hid (∀ w, Calls Tryd.prog 31 #[.agg #[.int .i64 x.kind, .string (ba x.text), .int .i64 x.n, .int .i64 x.pos], .string ⟨#[40]⟩] w fun e w' => e = .returned (.bool false) ∧ Below w.heap.size w w') := is_as (isW_no (by omega))
  rw [hk] at HI1 HI2 HI3
  go_enter Tryd.func22, Tryd.ntmps22
  go_wp2_with (first
    | (go_at_call 31; have := HD2; refine (HI3.out _).mono ?_; rintro e w4 ⟨rfl, HB⟩; have HL4 : Hid (Lie w4 b o (x :: r)) := HL3.out.below HB; have HZ4 : Hid (Zero4 w4 w.heap.size) := HZ3.out.below HB; have HB4 : Hid (Below w.heap.size w w4) := HB3.out.trans (HB.mono HB3.out.size); obtain ⟨x0, x1, x2, x3⟩ := HL4.out.head; rw [hk] at x0; have hbl := HL4.out.lt; obtain ⟨q0, q1, q2, q3, q4⟩ := HZ4.out; clear HB)
    | (go_at_call 31; have := HD1; refine (HI2.out _).mono ?_; rintro e w3 ⟨rfl, HB⟩; have HL3 : Hid (Lie w3 b o (x :: r)) := HL2.out.below HB; have HZ3 : Hid (Zero4 w3 w.heap.size) := HZ2.out.below HB; have HB3 : Hid (Below w.heap.size w w3) := HB2.out.trans (HB.mono HB2.out.size); obtain ⟨x0, x1, x2, x3⟩ := HL3.out.head; rw [hk] at x0; have hbl := HL3.out.lt; obtain ⟨q0, q1, q2, q3, q4⟩ := HZ3.out; clear HB; have HD2 : Hid True := trivial)
    | (go_at_call 31; refine (HI1.out _).mono ?_; rintro e w2 ⟨rfl, HB⟩; have HL2 : Hid (Lie w2 b o (x :: r)) := HL1.out.below HB; have HZ2 : Hid (Zero4 w2 w.heap.size) := HZ1.out.below HB; have HB2 : Hid (Below w.heap.size w w2) := HB1.out.trans (HB.mono HB1.out.size); obtain ⟨x0, x1, x2, x3⟩ := HL2.out.head; rw [hk] at x0; have hbl := HL2.out.lt; obtain ⟨q0, q1, q2, q3, q4⟩ := HZ2.out; clear HB; have HD1 : Hid True := trivial)
    | (go_at_call 34; refine (HS.out _ (HL.out.alloc _)).mono ?_; rintro e w1 ⟨rfl, HB⟩; have HL1 : Hid (Lie w1 b o (x :: r)) := (HL.out.alloc _).below HB; have HZ1 : Hid (Zero4 w1 w.heap.size) := (Cell4.new w _ _ _ _ 25).below HB; have HB1 : Hid (Below w.heap.size w w1) := ((Below.refl _ _).alloc (Nat.le_refl _) _).trans (HB.mono (by rw [size_alloc]; omega)); obtain ⟨x0, x1, x2, x3⟩ := HL1.out.head; rw [hk] at x0; have hbl := HL1.out.lt; clear HB))
  refine bodyPost_ret (v := .agg #[.int .i64 1, .int .i64 x.n, .string ⟨#[]⟩, .slice none 0 0]) (by simp [results, Tryd.results22, go_sem, q0, q1, q2, q3]) rfl ?_
  exact tpost_store (Tre.leaf _ _ ⟨by decide, by decide⟩ ⟨by omega, by omega⟩ [] (Nat.zero_le _)) HB4.out
set_option maxRecDepth 100000 in
set_option maxHeartbeats 1000000 in
theorem tree_yes (x : W) (r : List W) (hlen : r.length < 4096) (b o cap : Nat) (hcap : r.length + 1 ≤ cap) (w : World) (HL : Hid (Lie w b o (x :: r)))
    (HS : Hid (∀ w, Lie w b o (x :: r) → Calls Tryd.prog 34 #[.slice (some ⟨b, o, none⟩) (r.length + 1) cap] w fun e w' => e = .returned (.int .i64 (-1)) ∧ Below w.heap.size w w'))
    (hk : x.kind ≠ 1) (h1 : isW x 45 = false) (h2 : isW x 33 = false) (h3 : isW x 40 = false) (ht : x.text.length ≤ 4096) (hyes : x.text = yesB) :
    Calls Tryd.prog 22 #[.slice (some ⟨b, o, none⟩) (r.length + 1) cap] w (TPost w ⟨3, 0, [], []⟩) := by
  have HI1 : Hid (∀ w, Calls Tryd.prog 31 #[.agg #[.int .i64 x.kind, .string (ba x.text), .int .i64 x.n, .int .i64 x.pos], .string ⟨#[45]⟩] w fun e w' => e = .returned (.bool false) ∧ Below w.heap.size w w') := is_as h1
  have HI2 : Hid (∀ w, Calls Tryd.prog 31 #[.agg #[.int .i64 x.kind, .string (ba x.text), .int .i64 x.n, .int .i64 x.pos], .string ⟨#[33]⟩] w fun e w' => e = .returned (.bool false) ∧ Below w.heap.size w w') := is_as h2
  have HI3 : Hid (∀ w, Calls Tryd.prog 31 #[.agg #[.int .i64 x.kind, .string (ba x.text), .int .i64 x.n, .int .i64 x.pos], .string ⟨#[40]⟩] w fun e w' => e = .returned (.bool false) ∧ Below w.heap.size w w') := is_as h3
  have hki : ((x.kind : Int) == 1) = false := by simp; omega
  have key : ∀ l : Bs, ((ba x.text).toList == l) = decide (x.text = l) := fun l => by
    rw [ba_toList]
    by_cases h : x.text = l
    · rw [decide_eq_true h]; simpa using h
    · rw [decide_eq_false h]; simpa using h
  have hy : (⟨#[121, 101, 115]⟩ : ByteArray).toList = [121, 101, 115] := ByteArray.toList_mk ..
  have hn : (⟨#[110, 111]⟩ : ByteArray).toList = [110, 111] := ByteArray.toList_mk ..
  have g1 : ((ba x.text).toList == [121, 101, 115]) = true := (key _).trans (decide_eq_true hyes)
  clear key hyes
  go_enter Tryd.func22, Tryd.ntmps22
  go_wp2_with (first
    | (go_at_call 31; have := HD2; refine (HI3.out _).mono ?_; rintro e w4 ⟨rfl, HB⟩; have HL4 : Hid (Lie w4 b o (x :: r)) := HL3.out.below HB; have HZ4 : Hid (Zero4 w4 w.heap.size) := HZ3.out.below HB; have HB4 : Hid (Below w.heap.size w w4) := HB3.out.trans (HB.mono HB3.out.size); obtain ⟨x0, x1, x2, x3⟩ := HL4.out.head; have hbl := HL4.out.lt; obtain ⟨q0, q1, q2, q3, q4⟩ := HZ4.out; clear HB)
    | (go_at_call 31; have := HD1; refine (HI2.out _).mono ?_; rintro e w3 ⟨rfl, HB⟩; have HL3 : Hid (Lie w3 b o (x :: r)) := HL2.out.below HB; have HZ3 : Hid (Zero4 w3 w.heap.size) := HZ2.out.below HB; have HB3 : Hid (Below w.heap.size w w3) := HB2.out.trans (HB.mono HB2.out.size); obtain ⟨x0, x1, x2, x3⟩ := HL3.out.head; have hbl := HL3.out.lt; obtain ⟨q0, q1, q2, q3, q4⟩ := HZ3.out; clear HB; have HD2 : Hid True := trivial)
    | (go_at_call 31; refine (HI1.out _).mono ?_; rintro e w2 ⟨rfl, HB⟩; have HL2 : Hid (Lie w2 b o (x :: r)) := HL1.out.below HB; have HZ2 : Hid (Zero4 w2 w.heap.size) := HZ1.out.below HB; have HB2 : Hid (Below w.heap.size w w2) := HB1.out.trans (HB.mono HB1.out.size); obtain ⟨x0, x1, x2, x3⟩ := HL2.out.head; have hbl := HL2.out.lt; obtain ⟨q0, q1, q2, q3, q4⟩ := HZ2.out; clear HB; have HD1 : Hid True := trivial)
    | (go_at_call 34; refine (HS.out _ (HL.out.alloc _)).mono ?_; rintro e w1 ⟨rfl, HB⟩; have HL1 : Hid (Lie w1 b o (x :: r)) := (HL.out.alloc _).below HB; have HZ1 : Hid (Zero4 w1 w.heap.size) := (Cell4.new w _ _ _ _ 25).below HB; have HB1 : Hid (Below w.heap.size w w1) := ((Below.refl _ _).alloc (Nat.le_refl _) _).trans (HB.mono (by rw [size_alloc]; omega)); obtain ⟨x0, x1, x2, x3⟩ := HL1.out.head; have hbl := HL1.out.lt; clear HB))
  refine bodyPost_ret (v := .agg #[.int .i64 3, .int .i64 0, .string ⟨#[]⟩, .slice none 0 0]) (by simp [results, Tryd.results22, go_sem, q0, q1, q2, q3]) rfl ?_
  exact tpost_store (Tre.leaf _ _ ⟨by decide, by decide⟩ inR_zero [] (Nat.zero_le _)) HB4.out
set_option maxRecDepth 100000 in
set_option maxHeartbeats 1000000 in
theorem tree_no (x : W) (r : List W) (hlen : r.length < 4096) (b o cap : Nat) (hcap : r.length + 1 ≤ cap) (w : World) (HL : Hid (Lie w b o (x :: r)))
    (HS : Hid (∀ w, Lie w b o (x :: r) → Calls Tryd.prog 34 #[.slice (some ⟨b, o, none⟩) (r.length + 1) cap] w fun e w' => e = .returned (.int .i64 (-1)) ∧ Below w.heap.size w w'))
    (hk : x.kind ≠ 1) (h1 : isW x 45 = false) (h2 : isW x 33 = false) (h3 : isW x 40 = false) (ht : x.text.length ≤ 4096) (hyes : x.text ≠ yesB) (hno : x.text = noB) :
    Calls Tryd.prog 22 #[.slice (some ⟨b, o, none⟩) (r.length + 1) cap] w (TPost w ⟨4, 0, [], []⟩) := by
  have HI1 : Hid (∀ w, Calls Tryd.prog 31 #[.agg #[.int .i64 x.kind, .string (ba x.text), .int .i64 x.n, .int .i64 x.pos], .string ⟨#[45]⟩] w fun e w' => e = .returned (.bool false) ∧ Below w.heap.size w w') := is_as h1
  have HI2 : Hid (∀ w, Calls Tryd.prog 31 #[.agg #[.int .i64 x.kind, .string (ba x.text), .int .i64 x.n, .int .i64 x.pos], .string ⟨#[33]⟩] w fun e w' => e = .returned (.bool false) ∧ Below w.heap.size w w') := is_as h2
  have HI3 : Hid (∀ w, Calls Tryd.prog 31 #[.agg #[.int .i64 x.kind, .string (ba x.text), .int .i64 x.n, .int .i64 x.pos], .string ⟨#[40]⟩] w fun e w' => e = .returned (.bool false) ∧ Below w.heap.size w w') := is_as h3
  have hki : ((x.kind : Int) == 1) = false := by simp; omega
  have key : ∀ l : Bs, ((ba x.text).toList == l) = decide (x.text = l) := fun l => by
    rw [ba_toList]
    by_cases h : x.text = l
    · rw [decide_eq_true h]; simpa using h
    · rw [decide_eq_false h]; simpa using h
  have hy : (⟨#[121, 101, 115]⟩ : ByteArray).toList = [121, 101, 115] := ByteArray.toList_mk ..
  have hn : (⟨#[110, 111]⟩ : ByteArray).toList = [110, 111] := ByteArray.toList_mk ..
  have g1 : ((ba x.text).toList == [121, 101, 115]) = false := (key _).trans (decide_eq_false hyes)
  have g2 : ((ba x.text).toList == [110, 111]) = true := (key _).trans (decide_eq_true hno)
  clear key hyes hno
  go_enter Tryd.func22, Tryd.ntmps22
  go_wp2_with (first
    | (go_at_call 31; have := HD2; refine (HI3.out _).mono ?_; rintro e w4 ⟨rfl, HB⟩; have HL4 : Hid (Lie w4 b o (x :: r)) := HL3.out.below HB; have HZ4 : Hid (Zero4 w4 w.heap.size) := HZ3.out.below HB; have HB4 : Hid (Below w.heap.size w w4) := HB3.out.trans (HB.mono HB3.out.size); obtain ⟨x0, x1, x2, x3⟩ := HL4.out.head; have hbl := HL4.out.lt; obtain ⟨q0, q1, q2, q3, q4⟩ := HZ4.out; clear HB)
    | (go_at_call 31; have := HD1; refine (HI2.out _).mono ?_; rintro e w3 ⟨rfl, HB⟩; have HL3 : Hid (Lie w3 b o (x :: r)) := HL2.out.below HB; have HZ3 : Hid (Zero4 w3 w.heap.size) := HZ2.out.below HB; have HB3 : Hid (Below w.heap.size w w3) := HB2.out.trans (HB.mono HB2.out.size); obtain ⟨x0, x1, x2, x3⟩ := HL3.out.head; have hbl := HL3.out.lt; obtain ⟨q0, q1, q2, q3, q4⟩ := HZ3.out; clear HB; have HD2 : Hid True := trivial)
    | (go_at_call 31; refine (HI1.out _).mono ?_; rintro e w2 ⟨rfl, HB⟩; have HL2 : Hid (Lie w2 b o (x :: r)) := HL1.out.below HB; have HZ2 : Hid (Zero4 w2 w.heap.size) := HZ1.out.below HB; have HB2 : Hid (Below w.heap.size w w2) := HB1.out.trans (HB.mono HB1.out.size); obtain ⟨x0, x1, x2, x3⟩ := HL2.out.head; have hbl := HL2.out.lt; obtain ⟨q0, q1, q2, q3, q4⟩ := HZ2.out; clear HB; have HD1 : Hid True := trivial)
    | (go_at_call 34; refine (HS.out _ (HL.out.alloc _)).mono ?_; rintro e w1 ⟨rfl, HB⟩; have HL1 : Hid (Lie w1 b o (x :: r)) := (HL.out.alloc _).below HB; have HZ1 : Hid (Zero4 w1 w.heap.size) := (Cell4.new w _ _ _ _ 25).below HB; have HB1 : Hid (Below w.heap.size w w1) := ((Below.refl _ _).alloc (Nat.le_refl _) _).trans (HB.mono (by rw [size_alloc]; omega)); obtain ⟨x0, x1, x2, x3⟩ := HL1.out.head; have hbl := HL1.out.lt; clear HB))
  refine bodyPost_ret (v := .agg #[.int .i64 4, .int .i64 0, .string ⟨#[]⟩, .slice none 0 0]) (by simp [results, Tryd.results22, go_sem, q0, q1, q2, q3]) rfl ?_
  exact tpost_store (Tre.leaf _ _ ⟨by decide, by decide⟩ inR_zero [] (Nat.zero_le _)) HB4.out
set_option maxRecDepth 100000 in
set_option maxHeartbeats 1000000 in
theorem tree_var (x : W) (r : List W) (hlen : r.length < 4096) (b o cap : Nat) (hcap : r.length + 1 ≤ cap) (w : World) (HL : Hid (Lie w b o (x :: r)))
    (HS : Hid (∀ w, Lie w b o (x :: r) → Calls Tryd.prog 34 #[.slice (some ⟨b, o, none⟩) (r.length + 1) cap] w fun e w' => e = .returned (.int .i64 (-1)) ∧ Below w.heap.size w w'))
    (hk : x.kind ≠ 1) (h1 : isW x 45 = false) (h2 : isW x 33 = false) (h3 : isW x 40 = false) (ht : x.text.length ≤ 4096) (hyes : x.text ≠ yesB) (hno : x.text ≠ noB) :
    Calls Tryd.prog 22 #[.slice (some ⟨b, o, none⟩) (r.length + 1) cap] w (TPost w ⟨2, 0, x.text, []⟩) := by
  have HI1 : Hid (∀ w, Calls Tryd.prog 31 #[.agg #[.int .i64 x.kind, .string (ba x.text), .int .i64 x.n, .int .i64 x.pos], .string ⟨#[45]⟩] w fun e w' => e = .returned (.bool false) ∧ Below w.heap.size w w') := is_as h1
  have HI2 : Hid (∀ w, Calls Tryd.prog 31 #[.agg #[.int .i64 x.kind, .string (ba x.text), .int .i64 x.n, .int .i64 x.pos], .string ⟨#[33]⟩] w fun e w' => e = .returned (.bool false) ∧ Below w.heap.size w w') := is_as h2
  have HI3 : Hid (∀ w, Calls Tryd.prog 31 #[.agg #[.int .i64 x.kind, .string (ba x.text), .int .i64 x.n, .int .i64 x.pos], .string ⟨#[40]⟩] w fun e w' => e = .returned (.bool false) ∧ Below w.heap.size w w') := is_as h3
  have hki : ((x.kind : Int) == 1) = false := by simp; omega
  have key : ∀ l : Bs, ((ba x.text).toList == l) = decide (x.text = l) := fun l => by
    rw [ba_toList]
    by_cases h : x.text = l
    · rw [decide_eq_true h]; simpa using h
    · rw [decide_eq_false h]; simpa using h
  have hy : (⟨#[121, 101, 115]⟩ : ByteArray).toList = [121, 101, 115] := ByteArray.toList_mk ..
  have hn : (⟨#[110, 111]⟩ : ByteArray).toList = [110, 111] := ByteArray.toList_mk ..
  have g1 : ((ba x.text).toList == [121, 101, 115]) = false := (key _).trans (decide_eq_false hyes)
  have g2 : ((ba x.text).toList == [110, 111]) = false := (key _).trans (decide_eq_false hno)
  clear key hyes hno
  go_enter Tryd.func22, Tryd.ntmps22
  go_wp2_with (first
    | (go_at_call 31; have := HD2; refine (HI3.out _).mono ?_; rintro e w4 ⟨rfl, HB⟩; have HL4 : Hid (Lie w4 b o (x :: r)) := HL3.out.below HB; have HZ4 : Hid (Zero4 w4 w.heap.size) := HZ3.out.below HB; have HB4 : Hid (Below w.heap.size w w4) := HB3.out.trans (HB.mono HB3.out.size); obtain ⟨x0, x1, x2, x3⟩ := HL4.out.head; have hbl := HL4.out.lt; obtain ⟨q0, q1, q2, q3, q4⟩ := HZ4.out; clear HB)
    | (go_at_call 31; have := HD1; refine (HI2.out _).mono ?_; rintro e w3 ⟨rfl, HB⟩; have HL3 : Hid (Lie w3 b o (x :: r)) := HL2.out.below HB; have HZ3 : Hid (Zero4 w3 w.heap.size) := HZ2.out.below HB; have HB3 : Hid (Below w.heap.size w w3) := HB2.out.trans (HB.mono HB2.out.size); obtain ⟨x0, x1, x2, x3⟩ := HL3.out.head; have hbl := HL3.out.lt; obtain ⟨q0, q1, q2, q3, q4⟩ := HZ3.out; clear HB; have HD2 : Hid True := trivial)
    | (go_at_call 31; refine (HI1.out _).mono ?_; rintro e w2 ⟨rfl, HB⟩; have HL2 : Hid (Lie w2 b o (x :: r)) := HL1.out.below HB; have HZ2 : Hid (Zero4 w2 w.heap.size) := HZ1.out.below HB; have HB2 : Hid (Below w.heap.size w w2) := HB1.out.trans (HB.mono HB1.out.size); obtain ⟨x0, x1, x2, x3⟩ := HL2.out.head; have hbl := HL2.out.lt; obtain ⟨q0, q1, q2, q3, q4⟩ := HZ2.out; clear HB; have HD1 : Hid True := trivial)
    | (go_at_call 34; refine (HS.out _ (HL.out.alloc _)).mono ?_; rintro e w1 ⟨rfl, HB⟩; have HL1 : Hid (Lie w1 b o (x :: r)) := (HL.out.alloc _).below HB; have HZ1 : Hid (Zero4 w1 w.heap.size) := (Cell4.new w _ _ _ _ 25).below HB; have HB1 : Hid (Below w.heap.size w w1) := ((Below.refl _ _).alloc (Nat.le_refl _) _).trans (HB.mono (by rw [size_alloc]; omega)); obtain ⟨x0, x1, x2, x3⟩ := HL1.out.head; have hbl := HL1.out.lt; clear HB))
  refine bodyPost_ret (v := .agg #[.int .i64 2, .int .i64 0, .string (ba x.text), .slice none 0 0]) (by simp [results, Tryd.results22, go_sem, q0, q1, q2, q3]) rfl ?_
  exact tpost_store (Tre.leaf _ _ ⟨by decide, by decide⟩ inR_zero x.text (by omega)) HB4.out
set_option maxRecDepth 100000 in
set_option maxHeartbeats 1000000 in
theorem tree_neg (x : W) (r : List W) (hlen : r.length < 4096) (b o cap : Nat) (hcap : r.length + 1 ≤ cap) (w : World) (HL : Hid (Lie w b o (x :: r)))
    (HS : Hid (∀ w, Lie w b o (x :: r) → Calls Tryd.prog 34 #[.slice (some ⟨b, o, none⟩) (r.length + 1) cap] w fun e w' => e = .returned (.int .i64 (-1)) ∧ Below w.heap.size w w'))
    (hr : 1 ≤ r.length) (t : Tr) (hx : isW x 45 = true)
    (HT : Hid (∀ w, Lie w b (o + 4) r → Calls Tryd.prog 22 #[.slice (some ⟨b, o + 4, none⟩) r.length (cap - 1)] w (TPost w t))) :
    Calls Tryd.prog 22 #[.slice (some ⟨b, o, none⟩) (r.length + 1) cap] w (TPost w ⟨5, 0, [], [t]⟩) := by
  have hc1 : ¬ cap = 1 := by omega
  have HI1 : Hid (∀ w, Calls Tryd.prog 31 #[.agg #[.int .i64 x.kind, .string (ba x.text), .int .i64 x.n, .int .i64 x.pos], .string ⟨#[45]⟩] w fun e w' => e = .returned (.bool true) ∧ Below w.heap.size w w') := is_as hx
  go_enter Tryd.func22, Tryd.ntmps22
  go_wp2_with (first
    | (go_at_call 22; refine (HT.out _ HL2.out.tail).mono ?_; rintro e w3 ⟨⟨tk, tn, ts, ta, tl, tc, rfl, HTr⟩, HB⟩; obtain ⟨q0, q1, q2, q3, q4⟩ := HZ2.out.below HB; have hzl : w.heap.size < w3.heap.size := (HZ2.out.below HB).lt; have HB3 : Hid (Below w.heap.size w w3) := HB2.out.trans (HB.mono HB2.out.size); have HT3 : Hid (Tre w3 (fun g => w.heap.size < g) (.agg #[.int .i64 tk, .int .i64 tn, .string ts, .slice ta tl tc]) t) := HTr.sub (fun g hg => Nat.lt_of_lt_of_le HZ2.out.lt hg); clear HB HTr)
    | (go_at_call 31; refine (HI1.out _).mono ?_; rintro e w2 ⟨rfl, HB⟩; have HL2 : Hid (Lie w2 b o (x :: r)) := HL1.out.below HB; have HZ2 : Hid (Zero4 w2 w.heap.size) := HZ1.out.below HB; have HB2 : Hid (Below w.heap.size w w2) := HB1.out.trans (HB.mono HB1.out.size); obtain ⟨x0, x1, x2, x3⟩ := HL2.out.head; have hbl := HL2.out.lt; obtain ⟨q0, q1, q2, q3, q4⟩ := HZ2.out; clear HB; have HD1 : Hid True := trivial)
    | (go_at_call 34; refine (HS.out _ (HL.out.alloc _)).mono ?_; rintro e w1 ⟨rfl, HB⟩; have HL1 : Hid (Lie w1 b o (x :: r)) := (HL.out.alloc _).below HB; have HZ1 : Hid (Zero4 w1 w.heap.size) := (Cell4.new w _ _ _ _ 25).below HB; have HB1 : Hid (Below w.heap.size w w1) := ((Below.refl _ _).alloc (Nat.le_refl _) _).trans (HB.mono (by rw [size_alloc]; omega)); obtain ⟨x0, x1, x2, x3⟩ := HL1.out.head; have hbl := HL1.out.lt; clear HB))
  have hz4 : w.heap.size < w3.heap.size + 1 := by omega
  refine bodyPost_ret (v := .agg #[.int .i64 5, .int .i64 0, .string ⟨#[]⟩, .slice (some ⟨w3.heap.size + 1, 0, none⟩) 1 1]) (by simp [results, Tryd.results22, go_sem, q0, q1, q2, q3, hzl, hz4]) rfl ?_
  exact tpost_node1 ⟨by decide, by decide⟩ _ HT3.out HB3.out hzl
set_option maxRecDepth 100000 in
set_option maxHeartbeats 1000000 in
theorem tree_not (x : W) (r : List W) (hlen : r.length < 4096) (b o cap : Nat) (hcap : r.length + 1 ≤ cap) (w : World) (HL : Hid (Lie w b o (x :: r)))
    (HS : Hid (∀ w, Lie w b o (x :: r) → Calls Tryd.prog 34 #[.slice (some ⟨b, o, none⟩) (r.length + 1) cap] w fun e w' => e = .returned (.int .i64 (-1)) ∧ Below w.heap.size w w'))
    (hr : 1 ≤ r.length) (t : Tr) (hx : isW x 33 = true)
    (HT : Hid (∀ w, Lie w b (o + 4) r → Calls Tryd.prog 22 #[.slice (some ⟨b, o + 4, none⟩) r.length (cap - 1)] w (TPost w t))) :
    Calls Tryd.prog 22 #[.slice (some ⟨b, o, none⟩) (r.length + 1) cap] w (TPost w ⟨6, 0, [], [t]⟩) := by
  have hc1 : ¬ cap = 1 := by omega
  have HI1 : Hid (∀ w, Calls Tryd.prog 31 #[.agg #[.int .i64 x.kind, .string (ba x.text), .int .i64 x.n, .int .i64 x.pos], .string ⟨#[45]⟩] w fun e w' => e = .returned (.bool false) ∧ Below w.heap.size w w') := is_as (isW_not hx (by decide))
  have HI2 : Hid (∀ w, Calls Tryd.prog 31 #[.agg #[.int .i64 x.kind, .string (ba x.text), .int .i64 x.n, .int .i64 x.pos], .string ⟨#[33]⟩] w fun e w' => e = .returned (.bool true) ∧ Below w.heap.size w w') := is_as hx
  go_enter Tryd.func22, Tryd.ntmps22
  go_wp2_with (first
    | (go_at_call 22; refine (HT.out _ HL3.out.tail).mono ?_; rintro e w4 ⟨⟨tk, tn, ts, ta, tl, tc, rfl, HTr⟩, HB⟩; obtain ⟨q0, q1, q2, q3, q4⟩ := HZ3.out.below HB; have hzl : w.heap.size < w4.heap.size := (HZ3.out.below HB).lt; have HB4 : Hid (Below w.heap.size w w4) := HB3.out.trans (HB.mono HB3.out.size); have HT3 : Hid (Tre w4 (fun g => w.heap.size < g) (.agg #[.int .i64 tk, .int .i64 tn, .string ts, .slice ta tl tc]) t) := HTr.sub (fun g hg => Nat.lt_of_lt_of_le HZ3.out.lt hg); clear HB HTr)
    | (go_at_call 31; have := HD1; refine (HI2.out _).mono ?_; rintro e w3 ⟨rfl, HB⟩; have HL3 : Hid (Lie w3 b o (x :: r)) := HL2.out.below HB; have HZ3 : Hid (Zero4 w3 w.heap.size) := HZ2.out.below HB; have HB3 : Hid (Below w.heap.size w w3) := HB2.out.trans (HB.mono HB2.out.size); obtain ⟨x0, x1, x2, x3⟩ := HL3.out.head; have hbl := HL3.out.lt; obtain ⟨q0, q1, q2, q3, q4⟩ := HZ3.out; clear HB; have HD2 : Hid True := trivial)
    | (go_at_call 31; refine (HI1.out _).mono ?_; rintro e w2 ⟨rfl, HB⟩; have HL2 : Hid (Lie w2 b o (x :: r)) := HL1.out.below HB; have HZ2 : Hid (Zero4 w2 w.heap.size) := HZ1.out.below HB; have HB2 : Hid (Below w.heap.size w w2) := HB1.out.trans (HB.mono HB1.out.size); obtain ⟨x0, x1, x2, x3⟩ := HL2.out.head; have hbl := HL2.out.lt; obtain ⟨q0, q1, q2, q3, q4⟩ := HZ2.out; clear HB; have HD1 : Hid True := trivial)
    | (go_at_call 34; refine (HS.out _ (HL.out.alloc _)).mono ?_; rintro e w1 ⟨rfl, HB⟩; have HL1 : Hid (Lie w1 b o (x :: r)) := (HL.out.alloc _).below HB; have HZ1 : Hid (Zero4 w1 w.heap.size) := (Cell4.new w _ _ _ _ 25).below HB; have HB1 : Hid (Below w.heap.size w w1) := ((Below.refl _ _).alloc (Nat.le_refl _) _).trans (HB.mono (by rw [size_alloc]; omega)); obtain ⟨x0, x1, x2, x3⟩ := HL1.out.head; have hbl := HL1.out.lt; clear HB))
  have hz4 : w.heap.size < w4.heap.size + 1 := by omega
  refine bodyPost_ret (v := .agg #[.int .i64 6, .int .i64 0, .string ⟨#[]⟩, .slice (some ⟨w4.heap.size + 1, 0, none⟩) 1 1]) (by simp [results, Tryd.results22, go_sem, q0, q1, q2, q3, hzl, hz4]) rfl ?_
  exact tpost_node1 ⟨by decide, by decide⟩ _ HT3.out HB4.out hzl
set_option maxRecDepth 100000 in
set_option maxHeartbeats 1000000 in
theorem tree_in (x : W) (r : List W) (hlen : r.length < 4096) (b o cap : Nat) (hcap : r.length + 1 ≤ cap) (w : World) (HL : Hid (Lie w b o (x :: r)))
    (HS : Hid (∀ w, Lie w b o (x :: r) → Calls Tryd.prog 34 #[.slice (some ⟨b, o, none⟩) (r.length + 1) cap] w fun e w' => e = .returned (.int .i64 (-1)) ∧ Below w.heap.size w w'))
    (hr : 2 ≤ r.length) (t : Tr) (hx : isW x 40 = true)
    (HT : Hid (∀ w, Lie w b (o + 4) r.dropLast → Calls Tryd.prog 22 #[.slice (some ⟨b, o + 4, none⟩) (r.length - 1) (cap - 1)] w (TPost w t))) :
    Calls Tryd.prog 22 #[.slice (some ⟨b, o, none⟩) (r.length + 1) cap] w (TPost w t) := by
  have hc1 : ¬ cap = 1 := by omega
  have HI1 : Hid (∀ w, Calls Tryd.prog 31 #[.agg #[.int .i64 x.kind, .string (ba x.text), .int .i64 x.n, .int .i64 x.pos], .string ⟨#[45]⟩] w fun e w' => e = .returned (.bool false) ∧ Below w.heap.size w w') := is_as (isW_not hx (by decide))
  have HI2 : Hid (∀ w, Calls Tryd.prog 31 #[.agg #[.int .i64 x.kind, .string (ba x.text), .int .i64 x.n, .int .i64 x.pos], .string ⟨#[33]⟩] w fun e w' => e = .returned (.bool false) ∧ Below w.heap.size w w') := is_as (isW_not hx (by decide))
  have HI3 : Hid (∀ w, Calls Tryd.prog 31 #[.agg #[.int .i64 x.kind, .string (ba x.text), .int .i64 x.n, .int .i64 x.pos], .string ⟨#[40]⟩] w fun e w' => e = .returned (.bool true) ∧ Below w.heap.size w w') := is_as hx
  go_enter Tryd.func22, Tryd.ntmps22
  go_wp2_with (first
    | (go_at_call 22; refine (HT.out _ (by rw [List.dropLast_eq_take]; exact HL4.out.tail.take _)).mono ?_; rintro e w5 ⟨⟨tk, tn, ts, ta, tl, tc, rfl, HTr⟩, HB⟩; obtain ⟨q0, q1, q2, q3, q4⟩ := HZ4.out.below HB; have hzl : w.heap.size < w5.heap.size := (HZ4.out.below HB).lt; have HB5 : Hid (Below w.heap.size w w5) := HB4.out.trans (HB.mono HB4.out.size); have HT3 : Hid (Tre w5 (fun g => w.heap.size < g) (.agg #[.int .i64 tk, .int .i64 tn, .string ts, .slice ta tl tc]) t) := HTr.sub (fun g hg => Nat.lt_of_lt_of_le HZ4.out.lt hg); clear HB HTr)
    | (go_at_call 31; have := HD2; refine (HI3.out _).mono ?_; rintro e w4 ⟨rfl, HB⟩; have HL4 : Hid (Lie w4 b o (x :: r)) := HL3.out.below HB; have HZ4 : Hid (Zero4 w4 w.heap.size) := HZ3.out.below HB; have HB4 : Hid (Below w.heap.size w w4) := HB3.out.trans (HB.mono HB3.out.size); obtain ⟨x0, x1, x2, x3⟩ := HL4.out.head; have hbl := HL4.out.lt; obtain ⟨q0, q1, q2, q3, q4⟩ := HZ4.out; clear HB)
    | (go_at_call 31; have := HD1; refine (HI2.out _).mono ?_; rintro e w3 ⟨rfl, HB⟩; have HL3 : Hid (Lie w3 b o (x :: r)) := HL2.out.below HB; have HZ3 : Hid (Zero4 w3 w.heap.size) := HZ2.out.below HB; have HB3 : Hid (Below w.heap.size w w3) := HB2.out.trans (HB.mono HB2.out.size); obtain ⟨x0, x1, x2, x3⟩ := HL3.out.head; have hbl := HL3.out.lt; obtain ⟨q0, q1, q2, q3, q4⟩ := HZ3.out; clear HB; have HD2 : Hid True := trivial)
    | (go_at_call 31; refine (HI1.out _).mono ?_; rintro e w2 ⟨rfl, HB⟩; have HL2 : Hid (Lie w2 b o (x :: r)) := HL1.out.below HB; have HZ2 : Hid (Zero4 w2 w.heap.size) := HZ1.out.below HB; have HB2 : Hid (Below w.heap.size w w2) := HB1.out.trans (HB.mono HB1.out.size); obtain ⟨x0, x1, x2, x3⟩ := HL2.out.head; have hbl := HL2.out.lt; obtain ⟨q0, q1, q2, q3, q4⟩ := HZ2.out; clear HB; have HD1 : Hid True := trivial)
    | (go_at_call 34; refine (HS.out _ (HL.out.alloc _)).mono ?_; rintro e w1 ⟨rfl, HB⟩; have HL1 : Hid (Lie w1 b o (x :: r)) := (HL.out.alloc _).below HB; have HZ1 : Hid (Zero4 w1 w.heap.size) := (Cell4.new w _ _ _ _ 25).below HB; have HB1 : Hid (Below w.heap.size w w1) := ((Below.refl _ _).alloc (Nat.le_refl _) _).trans (HB.mono (by rw [size_alloc]; omega)); obtain ⟨x0, x1, x2, x3⟩ := HL1.out.head; have hbl := HL1.out.lt; clear HB))
  refine bodyPost_ret (v := .agg #[.int .i64 tk, .int .i64 tn, .string ts, .slice ta tl tc]) (by simp [results, Tryd.results22, go_sem, q0, q1, q2, q3]) rfl ?_
  exact tpost_store HT3.out HB5.out
end Go.Proofs.YtlfeejjlcclbdaaDoor
