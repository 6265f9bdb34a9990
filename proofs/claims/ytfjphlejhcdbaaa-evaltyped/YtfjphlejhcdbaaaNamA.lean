/-
  The variables of a tree, in the order in which they stand: contracts.
-/
import Derived.Test.YtfjphlejhcdbaaaRenA
import Derived.Test.YtfjphlejhcdbaaaStkX
import Derived.Sort.OwnSorted
import Derived.Maps.AppendAt
import Derived.Lib.SlicesCompact
import Derived.Lib.RowBridge
namespace Go.Proofs.Ytfjphlejhcdbaaa
section
open Go.RowKit Go.Maps Go.Sort
set_option linter.unusedVariables false


def varsM : Nat → Tr → List Bs
  | 0, _ => []
  | d + 1, t => if t.kind = 2 then [t.name] else t.kids.flatMap (varsM d)
def strs (l : List Bs) : List Value := l.map encStr
theorem encStr_ba (l : Bs) : encStr l = .string (ba l) := rfl
theorem strs_len (l : List Bs) : (strs l).length = l.length := List.length_map ..
theorem strs_append (l m : List Bs) : strs (l ++ m) = strs l ++ strs m := List.map_append ..
theorem infoS : (Try.prog.info? 9).map (fun i => (i.zero, i.size, i.bytes)) = some (some (.string ⟨#[]⟩), 1, 16) := by kernel_rfl
theorem flat_len {f : Tr → List Bs} {m : Nat} : ∀ {l : List Tr}, (∀ x ∈ l, (f x).length ≤ m) → (l.flatMap f).length ≤ l.length * m
  | [], _ => by simp
  | x :: r, h => by
    rw [List.flatMap_cons, List.length_append, List.length_cons, Nat.succ_mul]
    have h1 := h x (List.mem_cons_self ..)
    have h2 := flat_len (l := r) (fun y hy => h y (List.mem_cons_of_mem _ hy))
    omega
theorem kids_two {d : Nat} {t : Tr} (h : checkM (d + 1) t = 0) : t.kids.length ≤ 2 := by
  rcases (shape h).kids with ⟨_, h⟩ | ⟨_, x, h, _⟩ | ⟨_, x, y, h, _⟩ <;> rw [h] <;> simp
theorem vars_len : ∀ (d : Nat) (t : Tr), checkM d t = 0 → (varsM d t).length ≤ 2 ^ d
  | 0, t, h => by cases h
  | d + 1, t, h => by
    unfold varsM
    split
    · exact Nat.one_le_two_pow
    · have h1 := flat_len (f := varsM d) (l := t.kids) (m := 2 ^ d) (fun x hx => vars_len d x ((check_fits h).2 x hx))
      have h2 := kids_two h
      have h3 := Nat.mul_le_mul_right (2 ^ d) h2
      rw [Nat.pow_succ]; omega
/-- A row of texts of the call's own. -/
def Txt (w : World) (base : Nat) (v : Value) (l : List Bs) : Prop := w.ownsRow base 9 1 v l.length (strs l)
theorem Txt.below {w w' : World} {base : Nat} {v : Value} {l : List Bs} (h : Txt w base v l) (hb : Below w.heap.size w w') : Txt w' base v l := own_below h hb
theorem Txt.nil (w : World) (base : Nat) : Txt w base (.slice none 0 0) [] := World.ownsRow_nil _ _ _ _
theorem wpList_txt {ops : Array Oper} {rest : List Oper} {o : Oper} {a : Act} {Q : Exit → Act → World → Prop} {wX : World} (hgd : o.guard = none) (s x : Operand)
    (ho : o.op = .call { callee := .builtin .append, args := #[s, x], argTypes := #[25, 25] }) {base B : Nat} {v : Value} {l : List Bs} (y : ByteArray) (hl : Txt wX base v l) (hbase : base ≤ wX.heap.size) (hs : a.eval s = v) (hx : a.eval x = .slice (some ⟨B, 0, none⟩) 1 1) (hB : B = wX.heap.size) (hlen : l.length ≤ 1048576)
    (h : ∀ v' w' m, y = ba m → Txt w' base v' (l ++ [m]) → (wX.alloc (.cells #[.string y] 9)).grownBy w' v.ownBlock → wpList Try.prog ops Q rest (a.put o.dst v') w') : wpList Try.prog ops Q (o :: rest) a (wX.alloc (.cells #[.string y] 9)) := by
  subst hB
  obtain ⟨i, hi, hz, hsz, hby⟩ := info_parts infoS
  refine wpList_append_own_at _ hgd s x 25 ho base 9 i _ 1 16 Try.underlying25 hi hz hsz hby rfl (by decide) v l.length (strs l) hs (World.ownsRow.alloc hl _) ⟨wX.heap.size, 0, none⟩ 1 1 [.string y] hx rfl (cell_one_new _ _ _) (by intro u hu; simp at hu; rw [hu]; rfl) (by unfold maxLen; omega) (by omega) (by rw [size_alloc]; omega) ?_
  intro v' w' hown hgr _ _
  refine h v' w' y.data.toList (ba_of y).symm ?_ hgr
  unfold Txt
  rw [strs_append, List.length_append]
  have e : strs [y.data.toList] = [.string y] := by show [encStr y.data.toList] = _; rw [encStr_ba, ba_of]
  rw [e]
  exact hown
theorem Tre.openedP {w : World} {P : Nat → Prop} {v : Value} {t : Tr} (h : Tre w P v t) : ∃ a cap, v = .agg #[.int .i64 t.kind, .int .i64 t.n, .string (ba t.name), .slice a t.kids.length cap] ∧ t.kids.length ≤ cap ∧ InR t.kind ∧ InR t.n ∧ t.name.length ≤ 9223372036854775807 ∧ t.kids.length ≤ 9223372036854775807 ∧
    ∀ i, i < t.kids.length → ∃ b o ka kc, P b ∧ KidAt w P a i (t.kids.getD i zeroT) b o ka kc := by
  obtain ⟨d, h⟩ := h
  cases d with
  | zero => exact h.elim
  | succ d =>
    obtain ⟨a, cap, h1, h2, h3, h4, h5, h6, h7⟩ := h
    refine ⟨a, cap, h1, h2, h3, h4, h5, h6, fun i hi => ?_⟩
    obtain ⟨b, o, u0, u1, u2, u3, k1, k2, k3, k4, k5, k6, k7⟩ := h7 i hi
    have hT : Tre w P (.agg #[u0, u1, u2, u3]) (t.kids.getD i zeroT) := ⟨d, k7⟩
    obtain ⟨ka, kc, e⟩ := hT.four
    rw [e] at hT
    simp only [Value.agg.injEq, Array.mk.injEq, List.cons.injEq, and_true] at e
    obtain ⟨rfl, rfl, rfl, rfl⟩ := e
    exact ⟨b, o, ka, kc, k2, k1, k3, k4, k5, k6, hT⟩
theorem KidAt.low {w w' : World} {base : Nat} {a : Option Addr} {i : Nat} {x : Tr} {b o : Nat} {ka : Option Addr} {kc : Nat} (h : KidAt w (fun g => g < base) a i x b o ka kc) (hb : b < base) (hf : Below base w w') : KidAt w' (fun g => g < base) a i x b o ka kc :=
  ⟨h.ad, (hf.cell (p := ⟨b, _, none⟩) hb).trans h.c0, (hf.cell (p := ⟨b, _, none⟩) hb).trans h.c1, (hf.cell (p := ⟨b, _, none⟩) hb).trans h.c2, (hf.cell (p := ⟨b, _, none⟩) hb).trans h.c3, h.tre.kept fun g hg _ => ⟨hf.block g hg, hg⟩⟩
theorem take_next {ks : List Tr} {i : Nat} (h : i < ks.length) (f : Tr → List Bs) : (ks.take (i + 1)).flatMap f = (ks.take i).flatMap f ++ f (ks.getD i zeroT) := by
  rw [List.take_succ_eq_append_getElem h, List.flatMap_append, List.getD_eq_getElem?_getD, List.getElem?_eq_getElem h]
  simp
def sortB (l : List Bs) : List Bs := l.mergeSort fun x y => decide (x ≤ y)
/-- The names that a tree asks for. -/
def namesM (t : Tr) : List Bs := if checkM 16 t ≠ 0 then [] else Lib.compact (sortB (varsM 16 t))
theorem sortB_mem {l : List Bs} {x : Bs} (h : x ∈ sortB l) : x ∈ l := (List.mergeSort_perm l _).mem_iff.1 h
theorem compact_mem {l : List Bs} {x : Bs} (h : x ∈ Lib.compact l) : x ∈ l := by
  unfold Lib.compact Lib.compactUpTo at h
  obtain ⟨j, hj, rfl⟩ := List.mem_map.1 h
  have hj2 := (List.mem_filter.1 hj).1
  rw [List.mem_range] at hj2
  rw [getElem!_pos _ j (by simpa using hj2)]
  simp
/-- A slice that reads as texts. -/
def TxtV (w : World) (v : Value) (l : List Bs) : Prop := ∃ a cap, v = .slice a l.length cap ∧ l.length ≤ cap ∧ l.length ≤ 1048576 ∧ (l = [] ∨ ∃ g, a = some ⟨g, 0, none⟩ ∧ g < w.heap.size ∧ ∀ i, i < l.length → w.cell? ⟨g, i, none⟩ = some (.string (ba (l.getD i []))))
/-- A row of texts that is gone through. -/
structure Row1 (w : World) (g : Nat) (l : List Bs) : Prop where
  lt : g < w.heap.size
  cell : ∀ i, i < l.length → w.cell? ⟨g, i, none⟩ = some (.string (ba (l.getD i [])))
  free : ∀ i, w.frozen? ⟨g, i, none⟩ = false
theorem Row1.below {w w' : World} {g : Nat} {l : List Bs} (h : Row1 w g l) (hb : Below w.heap.size w w') : Row1 w' g l :=
  ⟨Nat.lt_of_lt_of_le h.lt hb.size, fun i hi => (hb.cell (p := ⟨g, i, none⟩) h.lt).trans (h.cell i hi), fun i => (hb.frozen (p := ⟨g, i, none⟩) h.lt).trans (h.free i)⟩
theorem Txt.form {w : World} {base : Nat} {v : Value} {l : List Bs} (h : Txt w base v l) : ∃ a cap, v = .slice a l.length cap ∧ l.length ≤ cap ∧ cap ≤ 9223372036854775807 ∧ (l ≠ [] → ∃ g, a = some ⟨g, 0, none⟩) := by
  rcases h.2 with ⟨rfl, h0⟩ | ⟨g, cap, cur, rfl, _, _, h1, h2, _⟩
  · exact ⟨none, 0, by rw [h0], by omega, by decide, fun hn => absurd (List.length_eq_zero_iff.1 h0) hn⟩
  · exact ⟨_, cap, rfl, h1, h2, fun _ => ⟨g, rfl⟩⟩
def NmPost (w : World) (l : List Bs) (e : Ending) (w' : World) : Prop := ∃ v, e = .returned v ∧ TxtV w' v l ∧ Below w.heap.size w w'
end
end Go.Proofs.Ytfjphlejhcdbaaa
