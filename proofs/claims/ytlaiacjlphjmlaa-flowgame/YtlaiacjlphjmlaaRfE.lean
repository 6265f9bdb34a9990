/-
  The document's own Of, in memory.
-/
import Derived.Test.YtlaiacjlphjmlaaRfC
import Derived.Test.YtlaiacjlphjmlaaFwG
import Derived.Test.YtlaiacjlphjmlaaOnZ
import Derived.Test.YtlaiacjlphjmlaaFxZ
import Derived.Deep.RegionLaw
namespace Go.Proofs.Ytlaiacjlphjmlaa
open Go.RowKit
set_option linter.unusedVariables false

/-- Appending a number, in a drawn region, with the row's place told. -/
theorem step_int2 {ops : Array Oper} {o : Oper} {a : Act} {K : Act → World → Prop} {Q : Exit → Act → World → Prop} {E : Prop} {wX : World} (hgd : o.guard = none) (s x : Operand)
    (ho : o.op = .call { callee := .builtin .append, args := #[s, x], argTypes := #[27, 27] }) {B g : Nat} {v : Value} {y : Nat} {ts : List Nat}
    (hl : Gw intR 3 1 wX B v ts) (hbase : B ≤ wX.heap.size) (hs : a.eval s = v) (hx : a.eval x = .slice (some ⟨g, 0, none⟩) 1 1) (hg : g = wX.heap.size) (hlen : ts.length ≤ 1048576)
    (h : ∀ v' w', Gw intR 3 1 w' B v' (ts ++ [y]) → (wX.alloc (.cells #[.int .i64 (y : Nat)] 3)).grownBy w' v.ownBlock → (v'.ownBlock = v.ownBlock ∨ v'.ownBlock = some (wX.heap.size + 1)) → K (a.put o.dst v') w') : if Region.wanted o (yielded ops a.tmps) = true then Oper.wp Try.prog o a (wX.alloc (.cells #[.int .i64 (y : Nat)] 3)) K Q else E := by
  subst hg
  obtain ⟨i, hi, hz, hsize, hby⟩ := info_parts infoI
  obtain ⟨xs, h1, h2⟩ := hl
  rw [if_pos (show Region.wanted o (yielded ops a.tmps) = true by simp [Region.wanted, hgd])]
  have hmul : (ts.length + 1) * 8 ≤ 1048577 * 100 := Nat.mul_le_mul (by omega) (by decide)
  obtain ⟨v', w', hr, q2, q3, q4, q5⟩ := run_append_own_at (P := Try.prog) (wX.alloc (.cells #[.int .i64 (y : Nat)] 3)) B 27 o.type 3 i _ 1 8 Try.underlying27 hi hz hsize hby rfl (by decide) v ts.length xs (World.ownsRow.alloc h1 _) ⟨wX.heap.size, 0, none⟩ 1 1 [.int .i64 (y : Nat)] rfl
    (fun j u hj => by rw [V.add_plain, Nat.zero_add, cell_of_row _ wX.heap.size j _ 3 (0, 0) (heap_alloc_new wX _)]; simpa using hj) (by simp [Value.oneCell']) (by unfold maxLen; omega) (by omega) (by rw [size_alloc]; omega)
  unfold Oper.wp execOp
  simp only [ho, resolve, invoke, builtin, Sem.run_bind, Sem.run_pure, Result.andThen_ok, List.map_toArray, List.map_cons, List.map_nil, hs, hx, hr]
  refine h v' w' ?_ q3 (by rw [size_alloc] at q5; exact q5)
  exact Gw.add intR_kept (World.ownsRow.alloc h1 _) (fun j hj => intR_kept _ _ (fun g => B ≤ g ∧ v.ownBlock ≠ some g) _ _ _ (h2 j hj) fun g hg hlt => ⟨heap_alloc_old _ _ hlt, hg⟩) rfl rfl q2 q3 q5
/-- What the document's Of holds while it goes through places. -/
structure Ro (w0 w5 w : World) (J n : Nat) (vF vD : Value) (ds : ByteArray) (a : Option Addr) (c : Nat) (s : Fs) (i j : Nat) : Prop where
  b : Below w0.heap.size w0 w
  hb : Below w5.heap.size w5 w
  box : Cell2 w w0.heap.size (.string ds) (.slice a n c)
  res : Cell3 w (w0.heap.size + 1) (.slice none 0 0) (.slice none 0 0) (.slice none 0 0)
  sb : Cell3 w w5.heap.size vF vD (.slice (some ⟨J, 0, none⟩) n n)
  f : Gw intR 3 1 w (w5.heap.size + 1) vF (s.fk.take i)
  d : Gw intR 3 1 w (w5.heap.size + 1) vD (s.dp.take j)
  ne : ∀ k, vF.ownBlock = some k → vD.ownBlock ≠ some k
  lo : w0.heap.size + 1 < w5.heap.size
section
variable {w0 w5 w w' : World} {J n : Nat} {vF vD : Value} {ds : ByteArray} {a : Option Addr} {c : Nat} {s : Fs} {i j : Nat}
theorem Gw.off2 {w' : World} {B : Nat} {v u : Value} {l : List Nat} {o : Obj} (h : Gw intR 3 1 w B u l) (hne : ∀ k, v.ownBlock = some k → u.ownBlock ≠ some k) (hg : (w.alloc o).grownBy w' v.ownBlock) : Gw intR 3 1 w' B u l := by
  obtain ⟨xs, h1, h2⟩ := h
  refine ⟨xs, (World.ownsRow.alloc h1 o).kept hg ?_, h2⟩
  cases hu : u.ownBlock with
  | none => exact .inl rfl
  | some k => exact .inr fun q => hne k q.symm hu
theorem Ro.keep (h : Ro w0 w5 w J n vF vD ds a c s i j) (hb : Below w.heap.size w w') : Ro w0 w5 w' J n vF vD ds a c s i j :=
  ⟨h.b.trans (hb.mono h.b.size), h.hb.trans (hb.mono h.hb.size), h.box.below hb, h.res.kept (hb.block _ h.res.lt), h.sb.kept (hb.block _ h.sb.lt), h.f.below intR_kept hb, h.d.below intR_kept hb, h.ne, h.lo⟩
theorem Ro.dr (h : Ro w0 w5 w J n vF vD ds a c s i j) : Ro w0 w5 w.drew J n vF vD ds a c s i j := h.keep (Below.refl _ _).drew
theorem Ro.hi (h : Ro w0 w5 w J n vF vD ds a c s i j) : w5.heap.size + 1 ≤ w.heap.size := h.sb.lt
theorem Ro.addF {w6 : World} {v6 : Value} {o : Obj} {i' : Nat} (h : Ro w0 w5 w J n vF vD ds a c s i j) (hg : (w.alloc o).grownBy w6 vF.ownBlock) (h6 : Gw intR 3 1 w6 (w5.heap.size + 1) v6 (s.fk.take i')) (ho : v6.ownBlock = vF.ownBlock ∨ v6.ownBlock = some (w.heap.size + 1)) :
    Cell3 w6 w5.heap.size vF vD (.slice (some ⟨J, 0, none⟩) n n) ∧ Ro w0 w5 (w6.setCell ⟨w5.heap.size, 0, none⟩ v6) J n v6 vD ds a c s i' j := by
  have hh := h.hi
  have hB : Below (w5.heap.size + 1) w w6 := ((Below.refl _ _).alloc hh o).grown hg (Nat.le_trans hh (le_alloc _ _)) h.f.own
  have hlo := h.lo
  have hs := h.sb.kept (hB.block _ (Nat.lt_succ_self _))
  have e1 : ∀ g, g < w5.heap.size → (w6.setCell ⟨w5.heap.size, 0, none⟩ v6).heap[g]? = w.heap[g]? := fun g hg => (Below.heap_setCell _ _ _ _ (by show g ≠ w5.heap.size; omega)).trans (hB.block g (by omega))
  refine ⟨hs, (h.b.trans (hB.mono (by omega))).setCell (p := ⟨w5.heap.size, 0, none⟩) (by show w0.heap.size ≤ w5.heap.size; omega) _, (h.hb.trans (hB.mono (by omega))).setCell (p := ⟨w5.heap.size, 0, none⟩) (Nat.le_refl _) _, h.box.kept (e1 _ (by omega)), h.res.kept (e1 _ (by omega)), hs.put 0 v6, h6.set intR_kept (Nat.lt_succ_self _) _, (h.d.off2 h.ne hg).set intR_kept (Nat.lt_succ_self _) _, fun k hk => ?_, hlo⟩
  rcases ho with ho | ho
  · exact h.ne k (ho ▸ hk)
  · rw [ho] at hk
    injection hk with hk
    exact h.d.off (by omega)
theorem Ro.addD {w6 : World} {v6 : Value} {o : Obj} {j' : Nat} (h : Ro w0 w5 w J n vF vD ds a c s i j) (hg : (w.alloc o).grownBy w6 vD.ownBlock) (h6 : Gw intR 3 1 w6 (w5.heap.size + 1) v6 (s.dp.take j')) (ho : v6.ownBlock = vD.ownBlock ∨ v6.ownBlock = some (w.heap.size + 1)) :
    Cell3 w6 w5.heap.size vF vD (.slice (some ⟨J, 0, none⟩) n n) ∧ Ro w0 w5 (w6.setCell ⟨w5.heap.size, 1, none⟩ v6) J n vF v6 ds a c s i j' := by
  have hh := h.hi
  have hB : Below (w5.heap.size + 1) w w6 := ((Below.refl _ _).alloc hh o).grown hg (Nat.le_trans hh (le_alloc _ _)) h.d.own
  have hlo := h.lo
  have hs := h.sb.kept (hB.block _ (Nat.lt_succ_self _))
  have e1 : ∀ g, g < w5.heap.size → (w6.setCell ⟨w5.heap.size, 1, none⟩ v6).heap[g]? = w.heap[g]? := fun g hg => (Below.heap_setCell _ _ _ _ (by show g ≠ w5.heap.size; omega)).trans (hB.block g (by omega))
  refine ⟨hs, (h.b.trans (hB.mono (by omega))).setCell (p := ⟨w5.heap.size, 1, none⟩) (by show w0.heap.size ≤ w5.heap.size; omega) _, (h.hb.trans (hB.mono (by omega))).setCell (p := ⟨w5.heap.size, 1, none⟩) (Nat.le_refl _) _, h.box.kept (e1 _ (by omega)), h.res.kept (e1 _ (by omega)), hs.put 1 v6, (h.f.off2 (fun k q1 q2 => h.ne k q2 q1) hg).set intR_kept (Nat.lt_succ_self _) _, h6.set intR_kept (Nat.lt_succ_self _) _, fun k hk => ?_, hlo⟩
  rcases ho with ho | ho
  · rw [ho]; exact h.ne k hk
  · rw [ho]; intro q; injection q with q
    exact absurd hk (h.f.off (by omega))
end
theorem take_add {l : List Nat} {i : Nat} (h : i < l.length) : l.take (i + 1) = l.take i ++ [l.getD i 0] := by
  have := take_one (f := fun x => x) h
  simpa using this
/-- What the document's Of answers. -/
def ROfP (d : Df) (w : World) (e : Ending) (w' : World) : Prop :=
  Below w.heap.size w w' ∧ ((ofE d ≠ 0 ∧ e = .returned (.tuple #[.agg #[.slice none 0 0, .slice none 0 0, .slice none 0 0], .int .i64 (ofE d : Nat)])) ∨
    (ofE d = 0 ∧ ∃ v1 v2 v3, e = .returned (.tuple #[.agg #[v1, v2, v3], .int .i64 0]) ∧ Iv w' v1 (ofS d).fk ∧ Iv w' v2 (ofS d).dp ∧ Iv w' v3 (ofS d).jn))
end Go.Proofs.Ytlaiacjlphjmlaa
