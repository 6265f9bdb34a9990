/-
  A row of bytes of the call's own.
-/
import Derived.Test.YtlfeejjlcclbdaaGreatDoorCheck
import Derived.Lib.AppendStr
import Derived.Lib.OthersKept
import Derived.Lib.AppendIntMem
import Derived.Laws.BytesString
import Derived.Maps.AppendAt
import Derived.Deep.RegionHeld3
namespace Go.Proofs.YtlfeejjlcclbdaaGreatDoor
open Go.RowKit
set_option linter.unusedVariables false


def Ob (w : World) (B : Nat) (v : Value) (l : Bs) : Prop := w.ownsRow B 5 1 v l.length (Lib.byteCells l)
/-- Of what there was nothing has turned but v's own row; v' has that row, or a new one. -/
structure Gro (v : Value) (w w' : World) (v' : Value) : Prop where
  os : w'.os = w.os
  tape : w'.tape = w.tape
  output : w'.output = w.output
  size : w.heap.size ≤ w'.heap.size
  block : ∀ k, k < w.heap.size → some k ≠ v.ownBlock → w'.heap[k]? = w.heap[k]?
  own : v'.ownBlock = v.ownBlock ∨ ∀ g, v'.ownBlock = some g → w.heap.size ≤ g
theorem Gro.refl (v : Value) (w : World) : Gro v w w v := ⟨rfl, rfl, rfl, Nat.le_refl _, fun _ _ _ => rfl, .inl rfl⟩
theorem Gro.trans {v v1 v2 : Value} {a b c : World} (h : Gro v a b v1) (k : Gro v1 b c v2) : Gro v a c v2 := by
  refine ⟨k.os.trans h.os, k.tape.trans h.tape, k.output.trans h.output, Nat.le_trans h.size k.size, fun i hi hn => ?_, ?_⟩
  · rw [k.block i (Nat.lt_of_lt_of_le hi h.size) ?_, h.block i hi hn]
    rcases h.own with e | e
    · rw [e]; exact hn
    · intro e2; have := e i e2.symm; omega
  · rcases k.own with e | e
    · rcases h.own with e2 | e2
      · exact .inl (e.trans e2)
      · exact .inr fun g hg => e2 g (by rw [← e]; exact hg)
    · exact .inr fun g hg => Nat.le_trans h.size (e g hg)
theorem Gro.alloc {v v' : Value} {a b : World} (h : Gro v a b v') (o : Obj) : Gro v a (b.alloc o) v' :=
  ⟨h.os, h.tape, h.output, Nat.le_trans h.size (le_alloc _ _), fun k hk hn => (heap_alloc_old _ _ (Nat.lt_of_lt_of_le hk h.size)).trans (h.block k hk hn), h.own⟩
theorem Gro.drew {v v' : Value} {a b : World} (h : Gro v a b v') : Gro v a b.drew v' := ⟨h.os, (Below.drew (Below.refl 0 b)).tape.trans h.tape, h.output, h.size, h.block, h.own⟩
theorem Ob.nil (w : World) (B : Nat) : Ob w B (.slice none 0 0) [] := World.ownsRow_nil _ _ _ _
theorem Ob.alloc {w : World} {B : Nat} {v : Value} {l : Bs} (h : Ob w B v l) (o : Obj) : Ob (w.alloc o) B v l := World.ownsRow.alloc h o
theorem Ob.drew {w : World} {B : Nat} {v : Value} {l : Bs} (h : Ob w B v l) : Ob w.drew B v l := h
theorem Ob.kind {w : World} {B : Nat} {v : Value} {l : Bs} (h : Ob w B v l) : ∀ g, v.ownBlock = some g → ∃ c fz, w.heap[g]? = some (.cells c 5 fz) := by
  intro g hg
  rcases h.2 with ⟨rfl, _⟩ | ⟨g', cap, cur, rfl, _, hgg, _⟩
  · simp [Value.ownBlock] at hg
  · simp [Value.ownBlock] at hg
    subst hg
    exact ⟨_, _, hgg⟩
theorem Ob.lt {w : World} {B : Nat} {v : Value} {l : Bs} (h : Ob w B v l) : ∀ g, v.ownBlock = some g → B ≤ g ∧ g < w.heap.size := fun g e => World.ownsRow.lt h g e
theorem Ob.bel {w w' : World} {B : Nat} {v v' : Value} {l : Bs} (h : Ob w B v l) (hB : B ≤ w.heap.size) (hg : Gro v w w' v') : Below B w w' :=
  ⟨hg.os, hg.tape, hg.output, hg.size, fun k hk => hg.block k (by omega) fun e => by have := h.lt k e.symm; omega⟩
theorem Ob.slice {w : World} {B : Nat} {v : Value} {l : Bs} (h : Ob w B v l) : ∃ a cap, v = .slice a l.length cap := by
  rcases h.2 with ⟨rfl, h0⟩ | ⟨g', cap, cur, rfl, _⟩
  · exact ⟨none, 0, by have := h0; simp_all⟩
  · exact ⟨_, _, rfl⟩
theorem info5 : (Tryz.prog.info? 5).map (fun i => (i.zero, i.size, i.bytes)) = some (some (.int .u8 0), 1, 1) := by kernel_rfl
theorem info_parts5 : ∃ i, Tryz.prog.info? 5 = some i ∧ i.zero = some (.int .u8 0) ∧ i.size = 1 ∧ i.bytes = 1 := by
  have h := info5
  cases hi : Tryz.prog.info? 5 with
  | none => rw [hi] at h; simp at h
  | some i => rw [hi] at h; simp at h; exact ⟨i, rfl, h.1, h.2.1, h.2.2⟩
theorem plain_add (b i : Nat) : (⟨b, 0, none⟩ : Addr).add i = ⟨b, i, none⟩ := by unfold Addr.add; split <;> simp_all
theorem append_ob {w : World} (B : Nat) (ty : TypeId) (v : Value) (l m : Bs) (hown : Ob w B v l) (g : Nat) (c : Nat) (hnews : ∀ j u, (Lib.byteCells m)[j]? = some u → w.cell? ⟨g, j, none⟩ = some u) (hl : l.length + m.length ≤ 140737488355328) (hB : B ≤ w.heap.size) :
    ∃ v' w', (Builtin.append_ #[37, 37] ty #[v, .slice (some ⟨g, 0, none⟩) m.length c]).run Tryz.prog w = .ok v' w' ∧ Ob w' B v' (l ++ m) ∧ Gro v w w' v' := by
  obtain ⟨i, hi, hz, hs, hb⟩ := info_parts5
  obtain ⟨v', w', h1, h2, h3, _, h5⟩ := run_append_own_at (P := Tryz.prog) w B 37 ty 5 i (.int .u8 0) 1 1 Tryz.underlying37 hi hz hs hb rfl (by decide) v l.length (Lib.byteCells l) hown ⟨g, 0, none⟩ m.length c (Lib.byteCells m) (by rw [Lib.byteCells_length, Nat.mul_one])
    (fun j u h => by rw [plain_add]; exact hnews j u h) (Lib.byteCells_one m) (by unfold maxLen; omega) (by omega) hB
  refine ⟨v', w', h1, ?_, ⟨h3.os, h3.tape, h3.output, h3.size, h3.block, h5.imp id fun e g hg => by rw [e] at hg; exact Nat.le_of_eq (Option.some.inj hg)⟩⟩
  unfold Ob
  rw [List.length_append, Lib.byteCells_append]
  exact h2
theorem wpList_add_ob {ops : Array Oper} {rest : List Oper} {o : Oper} {a : Act} {Q : Exit → Act → World → Prop} {w : World} (hgd : o.guard = none) (s x : Operand)
    (ho : o.op = .call { callee := .builtin .append, args := #[s, x], argTypes := #[37, 37] }) (B : Nat) (v : Value) (l m : Bs) (hs : a.eval s = v) (hown : Ob w B v l) (g c : Nat) (hx : a.eval x = .slice (some ⟨g, 0, none⟩) m.length c)
    (hnews : ∀ j u, (Lib.byteCells m)[j]? = some u → w.cell? ⟨g, j, none⟩ = some u) (hl : l.length + m.length ≤ 140737488355328) (hB : B ≤ w.heap.size)
    (h : ∀ v' w', Ob w' B v' (l ++ m) → Gro v w w' v' → wpList Tryz.prog ops Q rest (a.put o.dst v') w') : wpList Tryz.prog ops Q (o :: rest) a w := by
  refine wpList_plain hgd fun K hK => ?_
  obtain ⟨v', w', hr, h2, h3⟩ := append_ob B o.type v l m hown g c hnews hl hB
  unfold Oper.wp execOp
  simp only [ho, resolve, invoke, builtin, Sem.run_bind, Sem.run_pure, Result.andThen_ok, List.map_toArray, List.map_cons, List.map_nil, hs, hx, hr]
  exact hK _ _ (h v' w' h2 h3)
theorem step_add_ob {ops : Array Oper} {o : Oper} {a : Act} {K : Act → World → Prop} {Q : Exit → Act → World → Prop} {E : Prop} {w : World} (hgd : o.guard = none) (s x : Operand)
    (ho : o.op = .call { callee := .builtin .append, args := #[s, x], argTypes := #[37, 37] }) (B : Nat) (v : Value) (l m : Bs) (hs : a.eval s = v) (hown : Ob w B v l) (g c : Nat) (hx : a.eval x = .slice (some ⟨g, 0, none⟩) m.length c)
    (hnews : ∀ j u, (Lib.byteCells m)[j]? = some u → w.cell? ⟨g, j, none⟩ = some u) (hl : l.length + m.length ≤ 140737488355328) (hB : B ≤ w.heap.size)
    (h : ∀ v' w', Ob w' B v' (l ++ m) → Gro v w w' v' → K (a.put o.dst v') w') : if Region.wanted o (yielded ops a.tmps) = true then Oper.wp Tryz.prog o a w K Q else E := by
  have hw : Region.wanted o (yielded ops a.tmps) = true := by simp [Region.wanted, hgd]
  rw [if_pos hw]
  obtain ⟨v', w', hr, h2, h3⟩ := append_ob B o.type v l m hown g c hnews hl hB
  unfold Oper.wp execOp
  simp only [ho, resolve, invoke, builtin, Sem.run_bind, Sem.run_pure, Result.andThen_ok, List.map_toArray, List.map_cons, List.map_nil, hs, hx, hr]
  exact h v' w' h2 h3
theorem append_str {w : World} (B : Nat) (ty : TypeId) (v : Value) (l m : Bs) (hown : Ob w B v l) (hl : l.length + m.length ≤ 140737488355328) (hB : B ≤ w.heap.size) :
    ∃ v' w', (Builtin.append_ #[37, 9] ty #[v, .string (ba m)]).run Tryz.prog w = .ok v' w' ∧ Ob w' B v' (l ++ m) ∧ Gro v w w' v' := by
  obtain ⟨i, hi, hz, hsz, hb⟩ := info_parts5
  obtain ⟨v', w', hr, h2, h3, h4⟩ := Lib.run_append_own_string (P := Tryz.prog) w B 37 9 ty 5 i Tryz.underlying37 Tryz.underlying9 hi hz hsz hb v l.length (Lib.byteCells l) hown (ba m) (by rw [ba_size]; unfold maxLen; omega) (by rw [ba_size]; exact hl) hB
  refine ⟨v', w', hr, ?_, ⟨h3.os, h3.tape, h3.output, h3.size, h3.block, ?_⟩⟩
  · unfold Ob
    rw [List.length_append, Lib.byteCells_append]
    exact h2
  · rcases hown.2 with ⟨rfl, h0⟩ | ⟨g, cap, cur, rfl, hbg, hg, hnc, hcm, hcs, htake⟩
    · by_cases hm : (ba m).size = 0
      · exact .inl (by rw [h4.2 ⟨rfl, hm⟩])
      · have hr2 := run_append_nil_string (P := Tryz.prog) w 37 9 ty 5 i (.int .u8 0) Tryz.underlying37 Tryz.underlying9 hi hz (ba m) (by omega) (by rw [ba_size]; omega) (by rw [hb, ba_size]; omega)
        rw [hr] at hr2
        injection hr2 with e1 e2
        subst e1
        exact .inr fun g hg => Nat.le_of_eq (Option.some.inj hg)
    · by_cases hroom : l.length + (ba m).size ≤ cap
      · have hr2 := Lib.run_append_room_string (P := Tryz.prog) w 37 9 ty 5 i Tryz.underlying37 Tryz.underlying9 hi hsz g l.length cap cur hg (ba m) hroom (by rw [Nat.mul_one] at hcs; omega)
        rw [hr] at hr2
        injection hr2 with e1 e2
        subst e1
        exact .inl rfl
      · have hr2 := Lib.run_append_grow_string (P := Tryz.prog) w 37 9 ty 5 i (.int .u8 0) Tryz.underlying37 Tryz.underlying9 hi hz ⟨g, 0, none⟩ l.length cap (Lib.byteCells l) (by rw [hsz, Lib.byteCells_length, Nat.mul_one]) (World.ownsRow.cells hown (g := g) rfl) (ba m) (by omega) (by rw [ba_size]; omega) (by rw [hb]; exact growslice_fits (by omega) (by rw [ba_size]; omega))
        rw [hr] at hr2
        injection hr2 with e1 e2
        subst e1
        exact .inr fun g hg => Nat.le_of_eq (Option.some.inj hg)
theorem wpList_str_ob {ops : Array Oper} {rest : List Oper} {o : Oper} {a : Act} {Q : Exit → Act → World → Prop} {w : World} (hgd : o.guard = none) (s x : Operand)
    (ho : o.op = .call { callee := .builtin .append, args := #[s, x], argTypes := #[37, 9] }) (B : Nat) (v : Value) (l m : Bs) (hs : a.eval s = v) (hown : Ob w B v l) (hx : a.eval x = .string (ba m))
    (hl : l.length + m.length ≤ 140737488355328) (hB : B ≤ w.heap.size)
    (h : ∀ v' w', Ob w' B v' (l ++ m) → Gro v w w' v' → wpList Tryz.prog ops Q rest (a.put o.dst v') w') : wpList Tryz.prog ops Q (o :: rest) a w := by
  refine wpList_plain hgd fun K hK => ?_
  obtain ⟨v', w', hr, h2, h3⟩ := append_str B o.type v l m hown hl hB
  unfold Oper.wp execOp
  simp only [ho, resolve, invoke, builtin, Sem.run_bind, Sem.run_pure, Result.andThen_ok, List.map_toArray, List.map_cons, List.map_nil, hs, hx, hr]
  exact hK _ _ (h v' w' h2 h3)
theorem push_all : ∀ (l : Bs) (s : ByteArray), (l.map fun b => (b.toNat : Int)).foldl (fun r n => r.push (UInt8.ofNat n.toNat)) s = ⟨s.data ++ l.toArray⟩
  | [], s => by simp
  | b :: l, s => by
    simp only [List.map_cons, List.foldl_cons]
    rw [push_all l]
    simp [ByteArray.push]
theorem Ob.cell {w : World} {B g cap n : Nat} {l : Bs} (h : Ob w B (.slice (some ⟨g, 0, none⟩) n cap) l) : n = l.length ∧ ∀ j u, (Lib.byteCells l)[j]? = some u → w.cell? ⟨g, j, none⟩ = some u := by
  rcases h.2 with ⟨e, _⟩ | ⟨g', cap', cur, e, _, hg, hn, _, hs, ht⟩
  · cases e
  · simp only [Value.slice.injEq, Option.some.injEq, Addr.mk.injEq, and_true] at e
    obtain ⟨rfl, rfl, rfl⟩ := e
    refine ⟨rfl, fun j u hj => ?_⟩
    rw [cell_of_row _ _ _ _ 5 (0, 0) hg]
    rw [← ht] at hj
    have hj2 : j < l.length := by
      have := (List.getElem?_eq_some_iff.1 hj).1
      simp at this; omega
    rw [List.getElem?_take] at hj
    rw [if_pos (by omega)] at hj
    rw [← hj]; simp
theorem Ob.convert {w : World} {B : Nat} {a : Option Addr} {n c : Nat} {l : Bs} (h : Ob w B (.slice a n c) l) : (convert 37 9 (.slice a n c)).run Tryz.prog w = .ok (.string (ba l)) w := by
  rw [run_convert_bytes_string w 37 9 5 _ _ _ Tryz.underlying37 Tryz.underlying5 Tryz.underlying9]
  cases a with
  | none =>
    rcases h.2 with ⟨e, h0⟩ | ⟨g', cap', cur, e, _⟩
    · have : l = [] := List.length_eq_zero_iff.1 h0
      subst this
      cases e
      rfl
    · cases e
  | some ad =>
    obtain ⟨g, o, sp⟩ := ad
    have hg0 : o = 0 ∧ sp = none := by
      rcases h.2 with ⟨e, h0⟩ | ⟨g', cap', cur, e, _⟩
      · cases e
      · simp only [Value.slice.injEq, Option.some.injEq, Addr.mk.injEq] at e
        exact ⟨e.1.2.1, e.1.2.2⟩
    obtain ⟨rfl, rfl⟩ := hg0
    obtain ⟨rfl, hc⟩ := h.cell
    rw [run_bytesToString w ⟨g, 0, none⟩ l.length c (l.map fun b => (b.toNat : Int)) ?_]
    · rw [push_all]; simp [ba]
    · have := run_loadCells_list (P := Tryz.prog) w ⟨g, 0, none⟩ (Lib.byteCells l) (fun j v hj => by rw [plain_add]; exact hc j v hj)
      rw [Lib.byteCells_length] at this
      rw [this]
      simp [Lib.byteCells]
/-- What put leaves. -/
def PutP (B : Nat) (w : World) (vb : Value) (l : Bs) (e : Ending) (w' : World) : Prop := ∃ v, e = .returned v ∧ Ob w' B v l ∧ Gro vb w w' v
/-- A tree's box: four cells of a block that is no row of bytes. -/
def Box (w : World) (b : Nat) (v0 v1 v2 v3 : Value) : Prop := w.heap[b]? = some (.cells #[v0, v1, v2, v3] 24)
theorem Box.new (w : World) (v0 v1 v2 v3 : Value) : Box (w.alloc (.cells #[v0, v1, v2, v3] 24)) w.heap.size v0 v1 v2 v3 := heap_alloc_new _ _
theorem Box.lt {b : Nat} {w : World} {v0 v1 v2 v3 : Value} (h : Box w b v0 v1 v2 v3) : b < w.heap.size := (Array.getElem?_eq_some_iff.1 h).1
theorem Box.gro {b : Nat} {w w' : World} {v v' v0 v1 v2 v3 : Value} (h : Box w b v0 v1 v2 v3) (hg : Gro v w w' v') (hb : some b ≠ v.ownBlock) : Box w' b v0 v1 v2 v3 := (hg.block b h.lt hb).trans h
theorem Box.alloc {b : Nat} {w : World} {v0 v1 v2 v3 : Value} (h : Box w b v0 v1 v2 v3) (o : Obj) : Box (w.alloc o) b v0 v1 v2 v3 := by
  unfold Box
  rw [heap_alloc_old _ _ (Array.getElem?_eq_some_iff.1 h).1]
  exact h
theorem Box.cells {b : Nat} {w : World} {v0 v1 v2 v3 : Value} (h : Box w b v0 v1 v2 v3) : Cell4 w b v0 v1 v2 v3 := by
  refine ⟨?_, ?_, ?_, ?_, fun i => by simp only [World.frozen?]; rw [h]; simp⟩ <;> (rw [cell_of_row _ _ _ _ 24 (0, 0) h]; rfl)
theorem Tre.kidB {w : World} {P : Nat → Prop} {v : Value} {t : Tr} (h : Tre w P v t) : ∃ a cap, v = .agg #[.int .i64 t.kind, .int .i64 t.n, .string (ba t.name), .slice a t.kids.length cap] ∧ t.kids.length ≤ cap ∧ InR t.kind ∧ InR t.n ∧
    ∀ i, i < t.kids.length → ∃ b o ka kc, P b ∧ KidAt w P a i (t.kids.getD i zeroT) b o ka kc := by
  obtain ⟨d, h⟩ := h
  cases d with
  | zero => exact h.elim
  | succ d =>
    obtain ⟨a, cap, h1, h2, h3, h4, h5, h6, h7⟩ := h
    refine ⟨a, cap, h1, h2, h3, h4, fun i hi => ?_⟩
    obtain ⟨b, o, u0, u1, u2, u3, k1, k2, k3, k4, k5, k6, k7⟩ := h7 i hi
    have hT : Tre w P (.agg #[u0, u1, u2, u3]) (t.kids.getD i zeroT) := ⟨d, k7⟩
    obtain ⟨ka, kc, e⟩ := hT.four
    rw [e] at hT
    simp only [Value.agg.injEq, Array.mk.injEq, List.cons.injEq, and_true] at e
    obtain ⟨rfl, rfl, rfl, rfl⟩ := e
    exact ⟨b, o, ka, kc, k2, k1, k3, k4, k5, k6, hT⟩
theorem Tre.belowB {w w' : World} {B : Nat} {v : Value} {t : Tr} (h : Tre w (fun g => g < B) v t) (hb : Below B w w') : Tre w' (fun g => g < B) v t := h.kept fun g hg _ => ⟨hb.block g hg, hg⟩
theorem KidAt.belowB {w w' : World} {B : Nat} {a : Option Addr} {i : Nat} {x : Tr} {b o : Nat} {ka : Option Addr} {kc : Nat} (h : KidAt w (fun g => g < B) a i x b o ka kc) (hlt : b < B) (hf : Below B w w') : KidAt w' (fun g => g < B) a i x b o ka kc :=
  ⟨h.ad, (hf.cell (p := ⟨b, _, none⟩) hlt).trans h.c0, (hf.cell (p := ⟨b, _, none⟩) hlt).trans h.c1, (hf.cell (p := ⟨b, _, none⟩) hlt).trans h.c2, (hf.cell (p := ⟨b, _, none⟩) hlt).trans h.c3, h.tre.belowB hf⟩
/-- The text of a tree. -/
def wrapT (row : Nat) (k : Int) (t : Bs) : Bs := if row ≤ rowK k then t else 40 :: (t ++ [41])
def signsB : Bs := [45, 33, 43, 45, 42, 47, 61, 60, 38, 124]
def signB (k : Int) : UInt8 := signsB.getD (k - 5).toNat 0
def leftK (k : Int) : Nat := if rowK k = 3 then 4 else rowK k
def nodeT (k n : Int) (nm : Bs) (l : List (Int × Bs)) : Bs :=
  if k = 1 then Lib.itoa n else if k = 2 then nm else if k = 3 then yesB else if k = 4 then noB
  else if k = 5 ∨ k = 6 then signB k :: wrapT 6 (l.getD 0 (0, [])).1 (l.getD 0 (0, [])).2
  else wrapT (leftK k) (l.getD 0 (0, [])).1 (l.getD 0 (0, [])).2 ++ [32, signB k, 32] ++ wrapT (rowK k + 1) (l.getD 1 (0, [])).1 (l.getD 1 (0, [])).2
def textT : Tr → Bs
  | ⟨k, n, nm, ks⟩ => nodeT k n nm (textsT ks)
  where textsT : List Tr → List (Int × Bs)
  | [] => []
  | x :: r => (x.kind, textT x) :: textsT r
theorem textsT_at : ∀ (l : List Tr) (i : Nat), i < l.length → (textT.textsT l).getD i (0, []) = ((l.getD i zeroT).kind, textT (l.getD i zeroT))
  | [], i, h => by simp at h
  | x :: r, 0, _ => rfl
  | x :: r, i + 1, h => by
    show (textT.textsT r).getD i (0, []) = _
    rw [textsT_at r i (by simpa using h)]; rfl
theorem textT_eq (t : Tr) : textT t = nodeT t.kind t.n t.name (textT.textsT t.kids) := by cases t; rfl
structure Fit (t : Tr) : Prop where
  lo : 1 ≤ t.kind
  hi : t.kind ≤ 14
  kids : t.kids.length = kidsK t.kind
  n0 : 0 ≤ t.n
  n1 : t.kind ≠ 1 → t.n = 0
  nm : t.kind = 2 → nameOk t.name = true ∧ t.name ≠ yesB ∧ t.name ≠ noB
  no : t.kind ≠ 2 → t.name = []
theorem fit_of {t : Tr} (h : fitsM t = true) : Fit t := by
  unfold fitsM at h
  by_cases h1 : t.kind < 1 ∨ 14 < t.kind ∨ t.kids.length ≠ kidsK t.kind
  · rw [if_pos h1] at h; cases h
  · rw [if_neg h1] at h
    by_cases h2 : t.n < 0 ∨ t.n ≠ 0 ∧ t.kind ≠ 1
    · rw [if_pos h2] at h; cases h
    · rw [if_neg h2] at h
      have a1 : ¬ t.kind < 1 := fun h => h1 (.inl h)
      have a2 : ¬ 14 < t.kind := fun h => h1 (.inr (.inl h))
      have a3 : t.kids.length = kidsK t.kind := Classical.byContradiction fun h => h1 (.inr (.inr h))
      have a4 : ¬ t.n < 0 := fun h => h2 (.inl h)
      refine ⟨by omega, by omega, a3, by omega, fun hk => Classical.byContradiction fun hn => h2 (.inr ⟨hn, hk⟩), fun hk => ?_, fun hk => ?_⟩
      · rw [if_pos hk] at h
        simp only [Bool.and_eq_true, decide_eq_true_eq] at h
        exact ⟨h.1.1, h.1.2, h.2⟩
      · rw [if_neg hk] at h
        simpa using h
theorem check_parts {d : Nat} {t : Tr} (h : checkM (d + 1) t = 0) : Fit t ∧ ∀ i, i < t.kids.length → checkM d (t.kids.getD i zeroT) = 0 := by
  have h' : (if fitsM t = false then 1 else firstBad (checkM d) t.kids) = 0 := h
  cases hf : fitsM t with
  | false => rw [hf, if_pos rfl] at h'; exact absurd h' (by decide)
  | true =>
    rw [hf, if_neg (by decide)] at h'
    refine ⟨fit_of hf, ?_⟩
    generalize t.kids = l at h'
    induction l with
    | nil => intro i hi; simp at hi
    | cons x r ih =>
      have h2 : (if checkM d x ≠ 0 then checkM d x else firstBad (checkM d) r) = 0 := h'
      by_cases hx : checkM d x = 0
      · rw [if_neg (fun h => h hx)] at h2
        intro i hi
        cases i with
        | zero => exact hx
        | succ i => exact ih h2 i (by simpa using hi)
      · rw [if_pos hx] at h2; exact absurd h2 hx
end Go.Proofs.YtlfeejjlcclbdaaGreatDoor
