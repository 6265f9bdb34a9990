/-
  A tree's text behind bytes: contracts.
-/
import Derived.Test.YtlfeejjlcclbdaaGreatDoorNums
namespace Go.Proofs.YtlfeejjlcclbdaaGreatDoor
open Go.RowKit
set_option linter.unusedVariables false


abbrev Tab (w : World) (B : Nat) : Prop := Lib.TabBelow Tryz.prog B w "internal/strconv.uint64pow10" .u64 Lib.pow10Tab
/-- What put wants: the tree lies below B, the bytes are the call's own, the table lies there. -/
structure Pre (w : World) (B : Nat) (vb v : Value) (l : Bs) (t : Tr) : Prop where
  tre : Tre w (fun g => g < B) v t
  own : Ob w B vb l
  low : B ≤ w.heap.size
  tab : Tab w B
theorem Pre.alloc {w : World} {B : Nat} {vb v : Value} {l : Bs} {t : Tr} (h : Pre w B vb v l t) (o : Obj) : Pre (w.alloc o) B vb v l t :=
  ⟨h.tre.alloc o, h.own.alloc o, Nat.le_trans h.low (le_alloc _ _), h.tab.on ((Below.refl _ _).alloc h.low o)⟩
theorem Pre.drew {w : World} {B : Nat} {vb v : Value} {l : Bs} {t : Tr} (h : Pre w B vb v l t) : Pre w.drew B vb v l t :=
  ⟨h.tre.kept fun g hg _ => ⟨rfl, hg⟩, h.own, h.low, h.tab.on (Below.drew (Below.refl _ _))⟩
theorem Pre.gro {w w' : World} {B : Nat} {vb v v1 : Value} {l m : Bs} {t : Tr} (h : Pre w B vb v l t) (ho : Ob w' B v1 m) (hg : Gro vb w w' v1) : Pre w' B v1 v m t :=
  ⟨h.tre.belowB (h.own.bel h.low hg), ho, Nat.le_trans h.low hg.size, h.tab.on (h.own.bel h.low hg)⟩
theorem own_ne {w : World} {B : Nat} {v : Value} {l : Bs} (h : Ob w B v l) : some w.heap.size ≠ v.ownBlock := fun e => by have := h.lt _ e.symm; omega
/-- One byte that lies somewhere. -/
def Byte1 (w : World) (g : Nat) (x : UInt8) : Prop := w.cell? ⟨g, 0, none⟩ = some (.int .u8 x.toNat)
theorem Byte1.news {w : World} {g : Nat} {x : UInt8} (h : Byte1 w g x) : ∀ j u, (Lib.byteCells [x])[j]? = some u → w.cell? ⟨g, j, none⟩ = some u := by
  intro j u hj
  cases j with
  | zero => simp [Lib.byteCells] at hj; subst hj; exact h
  | succ j => simp [Lib.byteCells] at hj
theorem Byte1.new (w : World) (x : UInt8) : Byte1 (w.alloc (.cells #[.int .u8 x.toNat] 5)) w.heap.size x := by
  unfold Byte1
  rw [cell_of_row _ _ _ _ 5 (0, 0) (heap_alloc_new w _)]; rfl
theorem Byte1.new2 (w : World) (o : Obj) (x : UInt8) : Byte1 ((w.alloc o).alloc (.cells #[.int .u8 x.toNat] 5)) (w.heap.size + 1) x := by
  rw [← size_alloc w o]; exact Byte1.new _ x
theorem Byte1.alloc {w : World} {g : Nat} {x : UInt8} (h : Byte1 w g x) (o : Obj) : Byte1 (w.alloc o) g x := ((Fr.refl (g + 1) w).alloc o).cell (by omega) h
theorem Byte1.drew {w : World} {g : Nat} {x : UInt8} (h : Byte1 w g x) : Byte1 w.drew g x := h
theorem Byte1.lt {w : World} {g : Nat} {x : UInt8} (h : Byte1 w g x) : g < w.heap.size := World.block_lt_of_cell? w _ h
theorem Byte1.gro {w w' : World} {g : Nat} {x : UInt8} {v v' : Value} (h : Byte1 w g x) (hg : Gro v w w' v') (hn : some g ≠ v.ownBlock) : Byte1 w' g x := by
  unfold Byte1
  simp only [World.cell?]
  rw [hg.block g h.lt hn]
  exact h
/-- A block that is not v's own stays none of what came of v, if it was there. -/
theorem Gro.ne {v v' : Value} {w w' : World} (h : Gro v w w' v') {g : Nat} (hg : g < w.heap.size) (hn : some g ≠ v.ownBlock) : some g ≠ v'.ownBlock := by
  rcases h.own with e | e
  · rw [e]; exact hn
  · intro e2; have := e g e2.symm; omega
theorem Ob.ne {w : World} {B : Nat} {v : Value} {l : Bs} (h : Ob w B v l) {g : Nat} (hg : w.heap.size ≤ g) : some g ≠ v.ownBlock := fun e => by have := h.lt _ e.symm; omega
set_option maxRecDepth 100000 in
set_option maxHeartbeats 800000 in
theorem side_plain (B row : Nat) (k n : Int) (s : ByteArray) (a : Option Addr) (ln c : Nat) (l m : Bs) (t : Tr) (vb : Value) (w : World) (hrow : row ≤ rowK k)
    (HP : Hid (∀ w vb l, Pre w B vb (.agg #[.int .i64 k, .int .i64 n, .string s, .slice a ln c]) l t → l.length + m.length ≤ 1099511627776 → Calls Tryz.prog 13 #[vb, .agg #[.int .i64 k, .int .i64 n, .string s, .slice a ln c]] w (PutP B w vb (l ++ m))))
    (HW : Hid (Pre w B vb (.agg #[.int .i64 k, .int .i64 n, .string s, .slice a ln c]) l t)) (hl : l.length + m.length ≤ 1099511627776) :
    Calls Tryz.prog 24 #[vb, .agg #[.int .i64 k, .int .i64 n, .string s, .slice a ln c], .int .i64 row] w (PutP B w vb (l ++ m)) := by
  have HC : Hid (∀ w, Calls Tryz.prog 25 #[.int .i64 k] w fun e w' => e = .returned (.int .i64 (rowK k)) ∧ w' = w) := fun w => row_any k w
  generalize rowK k = rk at *
  go_enter Tryz.func24, Tryz.ntmps24
  go_wp2_with (first
    | (go_at_call 13; refine (HP.out _ vb l (HW.out.alloc _) hl).mono ?_; rintro e w1 ⟨v1, rfl, h1, h2⟩; have H1 : Hid (Ob w1 B v1 (l ++ m) ∧ Gro vb w w1 v1) := ⟨h1, ((Gro.refl vb w).alloc _).trans h2⟩; clear h1 h2)
    | (go_at_call 25; refine (HC.out _).mono ?_; rintro e w4 ⟨rfl, h4⟩; have h5 := h4.symm; clear h4; subst h5))
  go_ret
  exact ⟨v1, rfl, H1.out⟩
set_option maxRecDepth 100000 in
set_option maxHeartbeats 1600000 in
theorem side_wrap (B row : Nat) (k n : Int) (s : ByteArray) (a : Option Addr) (ln c : Nat) (l m : Bs) (t : Tr) (vb : Value) (w : World) (hrow : ¬ row ≤ rowK k)
    (HP : Hid (∀ w vb l, Pre w B vb (.agg #[.int .i64 k, .int .i64 n, .string s, .slice a ln c]) l t → l.length + m.length ≤ 1099511627776 → Calls Tryz.prog 13 #[vb, .agg #[.int .i64 k, .int .i64 n, .string s, .slice a ln c]] w (PutP B w vb (l ++ m))))
    (HW : Hid (Pre w B vb (.agg #[.int .i64 k, .int .i64 n, .string s, .slice a ln c]) l t)) (hl : l.length + (m.length + 2) ≤ 1099511627776) :
    Calls Tryz.prog 24 #[vb, .agg #[.int .i64 k, .int .i64 n, .string s, .slice a ln c], .int .i64 row] w (PutP B w vb (l ++ (40 :: (m ++ [41])))) := by
  have HC : Hid (∀ w, Calls Tryz.prog 25 #[.int .i64 k] w fun e w' => e = .returned (.int .i64 (rowK k)) ∧ w' = w) := fun w => row_any k w
  generalize rowK k = rk at *
  go_enter Tryz.func24, Tryz.ntmps24
  go_wp2_with (go_at_call 25; refine (HC.out _).mono ?_; rintro e w4 ⟨rfl, h4⟩; have h5 := h4.symm; clear h4; subst h5)
  have H0 : Hid (Pre (w.alloc (.cells #[.int .i64 k, .int .i64 n, .string s, .slice a ln c] 24)) B vb (.agg #[.int .i64 k, .int .i64 n, .string s, .slice a ln c]) l t ∧ Box (w.alloc (.cells #[.int .i64 k, .int .i64 n, .string s, .slice a ln c] 24)) w.heap.size (.int .i64 k) (.int .i64 n) (.string s) (.slice a ln c) ∧ some w.heap.size ≠ vb.ownBlock ∧ Gro vb w (w.alloc (.cells #[.int .i64 k, .int .i64 n, .string s, .slice a ln c] 24)) vb) :=
    ⟨HW.out.alloc _, Box.new _ _ _ _ _, own_ne HW.out.own, (Gro.refl vb w).alloc _⟩
  generalize w.alloc (.cells #[.int .i64 k, .int .i64 n, .string s, .slice a ln c] 24) = w0 at *
  generalize hb0 : w.heap.size = b0 at *
  obtain ⟨b1, b2, b3, b4, b5⟩ := H0.out.2.1.cells
  have hb0' : b0 < w0.heap.size := H0.out.2.1.lt
  have HX : Hid (∀ w' v', Gro vb w0 w' v' → w'.cell? ⟨b0, 0, none⟩ = some (.int .i64 k) ∧ w'.cell? ⟨b0, 1, none⟩ = some (.int .i64 n) ∧ w'.cell? ⟨b0, 2, none⟩ = some (.string s) ∧ w'.cell? ⟨b0, 3, none⟩ = some (.slice a ln c)) := fun w' v' hg => by
    have := (H0.out.2.1.gro hg H0.out.2.2.1).cells
    exact ⟨this.c0, this.c1, this.c2, this.c3⟩
  have HM0 : Hid True := trivial
  have hL1 : l.length + [(40 : UInt8)].length ≤ 140737488355328 := by simp; omega
  have hL2 : (l ++ [(40 : UInt8)]).length + m.length ≤ 1099511627776 := by simp; omega
  have hL3 : (l ++ [(40 : UInt8)] ++ m).length + [(41 : UInt8)].length ≤ 140737488355328 := by simp; omega
  go_region_held3 (fun w' => w'.cell? ⟨b0, 0, none⟩ = some (.int .i64 k) ∧ w'.cell? ⟨b0, 1, none⟩ = some (.int .i64 n) ∧ w'.cell? ⟨b0, 2, none⟩ = some (.string s) ∧ w'.cell? ⟨b0, 3, none⟩ = some (.slice a ln c)) (go_keep) (first
    | (have := HM0; refine step_add_ob rfl (.tmp 15) (.tmp 16) rfl B vb l [40] rfl (H0.out.1.own.alloc _).drew w0.heap.size 1 rfl (Byte1.new w0 40).drew.news hL1 (Nat.le_trans H0.out.1.low (le_alloc _ _)) ?_; intro v1 w1 h1 h2; have HA : Hid (Pre w1 B v1 (.agg #[.int .i64 k, .int .i64 n, .string s, .slice a ln c]) (l ++ [40]) t ∧ Gro vb w0 w1 v1) := ⟨((H0.out.1.alloc _).drew).gro h1 h2, ((Gro.refl vb w0).alloc _).drew.trans h2⟩; obtain ⟨z0, z1, z2, z3⟩ := HX.out _ _ HA.out.2; clear h1 h2 HM0)
    | (have := HM0; refine step_add_ob rfl (.tmp 15) (.tmp 16) rfl B vb l [40] rfl ((H0.out.1.own.alloc _).alloc _).drew (w0.heap.size + 1) 1 rfl (Byte1.new2 w0 _ 40).drew.news hL1 (Nat.le_trans H0.out.1.low (Nat.le_trans (le_alloc _ _) (le_alloc _ _))) ?_; intro v1 w1 h1 h2; have HB : Hid (Pre w1 B v1 (.agg #[.int .i64 k, .int .i64 n, .string s, .slice a ln c]) (l ++ [40]) t ∧ Gro vb w0 w1 v1 ∧ Byte1 w1 w0.heap.size 41 ∧ some w0.heap.size ≠ v1.ownBlock) := ⟨(((H0.out.1.alloc _).alloc _).drew).gro h1 h2, (((Gro.refl vb w0).alloc _).alloc _).drew.trans h2, ((Byte1.new w0 41).alloc _).drew.gro h2 (H0.out.1.own.ne (Nat.le_refl _)), h2.ne ((Byte1.new w0 41).alloc _).lt (H0.out.1.own.ne (Nat.le_refl _))⟩; obtain ⟨z0, z1, z2, z3⟩ := HX.out _ _ HB.out.2.1; clear h1 h2 HM0)
    | (have := HM0; refine step_add_ob rfl (.tmp 15) (.tmp 16) rfl B vb l [40] rfl ((H0.out.1.own.alloc _).alloc _).drew w0.heap.size 1 rfl ((Byte1.new w0 40).alloc _).drew.news hL1 (Nat.le_trans H0.out.1.low (Nat.le_trans (le_alloc _ _) (le_alloc _ _))) ?_; intro v1 w1 h1 h2; have HC1 : Hid (Pre w1 B v1 (.agg #[.int .i64 k, .int .i64 n, .string s, .slice a ln c]) (l ++ [40]) t ∧ Gro vb w0 w1 v1 ∧ Byte1 w1 (w0.heap.size + 1) 41 ∧ some (w0.heap.size + 1) ≠ v1.ownBlock) := ⟨(((H0.out.1.alloc _).alloc _).drew).gro h1 h2, (((Gro.refl vb w0).alloc _).alloc _).drew.trans h2, (Byte1.new2 w0 _ 41).drew.gro h2 (H0.out.1.own.ne (Nat.le_succ _)), h2.ne (Byte1.new2 w0 _ 41).lt (H0.out.1.own.ne (Nat.le_succ _))⟩; obtain ⟨z0, z1, z2, z3⟩ := HX.out _ _ HC1.out.2.1; clear h1 h2 HM0)
    | (go_at_call 13; have := HA; refine (HP.out _ v1 (l ++ [40]) HA.out.1 hL2).mono ?_; rintro e w2 ⟨v2, rfl, h1, h2⟩; have HA2 : Hid (Ob w2 B v2 (l ++ [40] ++ m) ∧ Gro vb w0 w2 v2) := ⟨h1, HA.out.2.trans h2⟩; obtain ⟨z4, z5, z6, z7⟩ := HX.out _ _ HA2.out.2; clear h1 h2 HA)
    | (go_at_call 13; have := HA; refine (HP.out _ v1 (l ++ [40]) (HA.out.1.alloc _) hL2).mono ?_; rintro e w2 ⟨v2, rfl, h1, h2⟩; have HA3 : Hid (Ob w2 B v2 (l ++ [40] ++ m) ∧ Gro vb w0 w2 v2 ∧ Byte1 w2 w1.heap.size 41) := ⟨h1, (HA.out.2.alloc _).trans h2, (Byte1.new w1 41).gro h2 (HA.out.1.own.ne (Nat.le_refl _))⟩; obtain ⟨z4, z5, z6, z7⟩ := HX.out _ _ HA3.out.2.1; clear h1 h2 HA)
    | (go_at_call 13; have := HB; refine (HP.out _ v1 (l ++ [40]) HB.out.1 hL2).mono ?_; rintro e w2 ⟨v2, rfl, h1, h2⟩; have HB2 : Hid (Ob w2 B v2 (l ++ [40] ++ m) ∧ Gro vb w0 w2 v2 ∧ Byte1 w2 w0.heap.size 41) := ⟨h1, HB.out.2.1.trans h2, HB.out.2.2.1.gro h2 HB.out.2.2.2⟩; obtain ⟨z4, z5, z6, z7⟩ := HX.out _ _ HB2.out.2.1; clear h1 h2 HB)
    | (go_at_call 13; have := HC1; refine (HP.out _ v1 (l ++ [40]) HC1.out.1 hL2).mono ?_; rintro e w2 ⟨v2, rfl, h1, h2⟩; have HC2 : Hid (Ob w2 B v2 (l ++ [40] ++ m) ∧ Gro vb w0 w2 v2 ∧ Byte1 w2 (w0.heap.size + 1) 41) := ⟨h1, HC1.out.2.1.trans h2, HC1.out.2.2.1.gro h2 HC1.out.2.2.2⟩; obtain ⟨z4, z5, z6, z7⟩ := HX.out _ _ HC2.out.2.1; clear h1 h2 HC1)
    | (have := HA2; refine step_add_ob rfl (.tmp 19) (.tmp 20) rfl B v2 (l ++ [40] ++ m) [41] rfl (HA2.out.1.alloc _) (w2.heap.size) 1 rfl (Byte1.new w2 41).news hL3 (Nat.le_trans H0.out.1.low (HA2.out.2.alloc _).size) ?_; intro v3 w3 h1 h2; have HF : Hid (Ob w3 B v3 (l ++ [40] ++ m ++ [41]) ∧ Gro vb w0 w3 v3) := ⟨h1, (HA2.out.2.alloc _).trans h2⟩; obtain ⟨y0, y1, y2, y3⟩ := HX.out _ _ HF.out.2; clear h1 h2 HA2)
    | (have := HA3; refine step_add_ob rfl (.tmp 19) (.tmp 20) rfl B v2 (l ++ [40] ++ m) [41] rfl HA3.out.1 (w1.heap.size) 1 rfl HA3.out.2.2.news hL3 (Nat.le_trans H0.out.1.low HA3.out.2.1.size) ?_; intro v3 w3 h1 h2; have HF : Hid (Ob w3 B v3 (l ++ [40] ++ m ++ [41]) ∧ Gro vb w0 w3 v3) := ⟨h1, HA3.out.2.1.trans h2⟩; obtain ⟨y0, y1, y2, y3⟩ := HX.out _ _ HF.out.2; clear h1 h2 HA3)
    | (have := HB2; refine step_add_ob rfl (.tmp 19) (.tmp 20) rfl B v2 (l ++ [40] ++ m) [41] rfl HB2.out.1 (w0.heap.size) 1 rfl HB2.out.2.2.news hL3 (Nat.le_trans H0.out.1.low HB2.out.2.1.size) ?_; intro v3 w3 h1 h2; have HF : Hid (Ob w3 B v3 (l ++ [40] ++ m ++ [41]) ∧ Gro vb w0 w3 v3) := ⟨h1, HB2.out.2.1.trans h2⟩; obtain ⟨y0, y1, y2, y3⟩ := HX.out _ _ HF.out.2; clear h1 h2 HB2)
    | (have := HC2; refine step_add_ob rfl (.tmp 19) (.tmp 20) rfl B v2 (l ++ [40] ++ m) [41] rfl HC2.out.1 (w0.heap.size + 1) 1 rfl HC2.out.2.2.news hL3 (Nat.le_trans H0.out.1.low HC2.out.2.1.size) ?_; intro v3 w3 h1 h2; have HF : Hid (Ob w3 B v3 (l ++ [40] ++ m ++ [41]) ∧ Gro vb w0 w3 v3) := ⟨h1, HC2.out.2.1.trans h2⟩; obtain ⟨y0, y1, y2, y3⟩ := HX.out _ _ HF.out.2; clear h1 h2 HC2))
  all_goals go_wp2
  all_goals go_ret
  all_goals
    have e1 : l ++ (40 :: (m ++ [41])) = l ++ [40] ++ m ++ [41] := by simp
    rw [e1]
    exact ⟨v3, rfl, HF.out.1, H0.out.2.2.2.trans HF.out.2⟩
end Go.Proofs.YtlfeejjlcclbdaaGreatDoor
