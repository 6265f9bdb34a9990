/-
  bytes.Clone; a row of entries that is made and then filled.
-/
import Derived.Test.YtcaddedkodjgcaaKje
import Derived.WalkSpells
namespace Go.Proofs.Ytcaddedkodjgcaa
open Go.RowKit Pack
set_option linter.unusedVariables false
set_option linter.unusedSimpArgs false

set_option maxRecDepth 100000 in
theorem bclone_any (v : Value) (l : BB) (w : World) (hr : ReadsV w v l) (hl : l.length ≤ 100000000) : Calls Try.prog 60 #[v] w fun e w' => ∃ a c, e = .returned (.slice a l.length c) ∧ ReadsV w' (.slice a l.length c) l ∧ PV (fun g => w.heap.size ≤ g) a l.length ∧ Below w.heap.size w w' := by
  have HR : Hid (ReadsV w v l) := hr
  obtain ⟨a, c, rfl, hnil, hlc, hcm, _⟩ := hr
  cases a with
  | none =>
    have hc := hnil rfl
    have h0 : l = [] := List.length_eq_zero_iff.1 (by omega)
    subst h0 hc
    have hq : ∀ w', (binOp .eql 27 (.slice none 0 0) (.slice none 0 0)).run Try.prog w' = .ok (.bool true) w' := fun w' => Lib.run_eql_slice_nil w' _ _ _ _ _ _ _ Try.underlying27
    clear hnil hlc hcm
    go_enter Try.func60, Try.ntmps60
    go_wp2
    go_ret
    exact ⟨none, 0, rfl, ReadsV.nil _, PV.none _ _, Below.refl _ _⟩
  | some x =>
    obtain ⟨n, hn⟩ : ∃ n, l.length = n := ⟨_, rfl⟩
    have HO : Hid (Owns (w.alloc (.cells #[] 5)) w.heap.size (.slice (some ⟨w.heap.size, 0, none⟩) 0 0) []) := by
      refine ⟨rfl, .inr ⟨w.heap.size, 0, #[], rfl, Nat.le_refl _, heap_alloc_new w _, Nat.le_refl _, by decide, rfl, rfl⟩⟩
    have HM : Hid (([] : BB).length + l.length ≤ 140737488355328) := by show _ ≤ _; simp only [List.length_nil]; omega
    have HA : Hid (Below w.heap.size w (w.alloc (.cells #[] 5))) := (Below.refl _ _).alloc (Nat.le_refl _) _
    have HF : Hid (∀ w' v', Owns w' w.heap.size v' l → Below w.heap.size w w' → ∃ a c, v' = .slice a l.length c ∧ ReadsV w' (.slice a l.length c) l ∧ PV (fun g => w.heap.size ≤ g) a l.length ∧ Below w.heap.size w w') := fun w' v' q1 q2 => by
      have q3 := ReadsV.of_own q1
      obtain ⟨a', c', e, _⟩ := id q3
      subst e
      exact ⟨a', c', rfl, q3, fun h0 y hy => (World.ownsRow.lt q1 y.block (by rw [hy]; rfl)).1, q2⟩
    rw [hn] at HR hlc ⊢
    have hq : ∀ w', (binOp .eql 27 (.slice (some x) n c) (.slice none 0 0)).run Try.prog w' = .ok (.bool false) w' := fun w' => Lib.run_eql_slice_nil w' _ _ _ _ _ _ _ Try.underlying27
    clear hnil hcm hl
    go_enter Try.func60, Try.ntmps60
    go_wp2_with (at_builtin; refine wpList_append_bytes rfl (.tmp 5) (.tmp 6) 27 rfl w.heap.size Try.underlying27 Try.info5 _ [] rfl HO.out _ l rfl (HR.out.below HA.out) HM.out HA.out.size ?_; intro v2 w2 hown2 hg2; have O2 : Hid (Owns w2 w.heap.size v2 l) := hown2; have B2 : Hid (Below w.heap.size w w2) := HA.out.trans hg2; clear hown2 hg2)
    go_ret
    obtain ⟨a', c', e, q1, q2, q3⟩ := HF.out _ _ O2.out B2.out
    rw [hn] at e q1 q2
    exact ⟨a', c', by rw [← e]; rfl, q1, q2, q3⟩
/-- A row of entries in block G of which the first i are filled. -/
structure Mk (w : World) (G n : Nat) (es : List En) (i : Nat) : Prop where
  c : ∀ j, j < n → ∃ u0 u1, w.cell? ⟨G, j * 2, none⟩ = some u0 ∧ w.cell? ⟨G, j * 2 + 1, none⟩ = some u1 ∧ (j < i → ReadsE w (fun g => G < g) u0 u1 (es.getD j zE))
  f : ∀ k, w.frozen? ⟨G, k, none⟩ = false
  l : G < w.heap.size
theorem Mk.below {w w' : World} {G n : Nat} {es : List En} {i : Nat} (h : Mk w G n es i) (hb : Below w.heap.size w w') : Mk w' G n es i := by
  have hk := hb.block G h.l
  refine ⟨fun j hj => ?_, fun k => (frozen_kept hk _).trans (h.f k), Nat.lt_of_lt_of_le h.l hb.size⟩
  obtain ⟨u0, u1, q1, q2, q3⟩ := h.c j hj
  exact ⟨u0, u1, (cell_kept hk _).trans q1, (cell_kept hk _).trans q2, fun q => (q3 q).kept fun g hg hlt => ⟨hb.block g hlt, hg⟩⟩
theorem Mk.step {w : World} {G n : Nat} {es : List En} {i : Nat} (h : Mk w G n es i) (hi : i < n) {u0 u1 : Value} (hr : ReadsE w (fun g => G < g) u0 u1 (es.getD i zE)) : Mk ((w.setCell ⟨G, i * 2, none⟩ u0).setCell ⟨G, i * 2 + 1, none⟩ u1) G n es (i + 1) := by
  have hk : ∀ g, G < g → ((w.setCell ⟨G, i * 2, none⟩ u0).setCell ⟨G, i * 2 + 1, none⟩ u1).heap[g]? = w.heap[g]? := fun g hg => (Below.heap_setCell _ _ _ _ (show g ≠ G by omega)).trans (Below.heap_setCell _ _ _ _ (show g ≠ G by omega))
  refine ⟨fun j hj => ?_, fun k => by simp only [World.frozen?_setCell]; exact h.f k, by rw [size_set, size_set]; exact h.l⟩
  obtain ⟨v0, v1, q1, q2, q3⟩ := h.c j hj
  refine ⟨_, _, cell_set (cell_set q1), cell_set (cell_set q2), fun q => ?_⟩
  rw [if_neg (show ¬ i * 2 + 1 = j * 2 by omega), if_neg (show ¬ i * 2 = j * 2 + 1 by omega)]
  by_cases e : i = j
  · subst e
    rw [if_pos rfl, if_pos rfl]
    exact hr.kept fun g hg hlt => ⟨hk g hg, hg⟩
  · rw [if_neg (show ¬ i * 2 = j * 2 by omega), if_neg (show ¬ i * 2 + 1 = j * 2 + 1 by omega)]
    exact (q3 (by omega)).kept fun g hg hlt => ⟨hk g hg, hg⟩
theorem Mk.done {w : World} {G : Nat} {es : List En} (h : Mk w G es.length es es.length) (hl : es.length ≤ 1048576) : EnsV w (fun g => G ≤ g) (some ⟨G, 0, none⟩) es.length es := by
  refine ⟨Nat.le_refl _, by omega, fun e => (by cases e), fun i hi => ?_⟩
  obtain ⟨u0, u1, q1, q2, q3⟩ := h.c i hi
  exact ⟨G, 0, u0, u1, ⟨rfl, Nat.le_refl _⟩, by rw [Nat.zero_add]; exact q1, by rw [Nat.zero_add]; exact q2, (q3 hi).kept fun g hg _ => ⟨rfl, Nat.le_of_lt hg⟩⟩
theorem infoEn : (Try.prog.info? 48).map (fun i => (i.zero, i.size, i.bytes)) = some (some (.agg #[.int .i64 0, .slice none 0 0]), 2, 32) := by kernel_rfl
theorem make_ens (n : Nat) (hn : n ≤ 1048576) : ∃ cs : Array Value, cs.size = n * 2 ∧ ∀ (w : World) (kl kc : IntKind), (Instr.makeSlice 49 (.int kl (n : Int)) (.int kc (n : Int))).run Try.prog w = .ok (.slice (some ⟨w.heap.size, 0, none⟩) n n) (w.alloc (.cells cs 48)) := by
  obtain ⟨i, hi, hz, hsize, hby⟩ := info_parts infoEn
  have hb2 : i.bytes * n ≤ 281474976710656 := by rw [hby]; omega
  have hb3 : (i.bytes : Int) * (n : Int) ≤ 281474976710656 := by
    have h : ((i.bytes * n : Nat) : Int) ≤ 281474976710656 := by omega
    rwa [Int.natCast_mul] at h
  refine ⟨_, size_madeCells (Value.agg #[.int .i64 0, .slice none 0 0]).cells (n * 2), fun w kl kc => ?_⟩
  have hr := run_make (P := Try.prog) w 49 48 i _ Try.underlying49 hi hz kl kc n n (by omega) (Int.le_refl _) hb3 (by omega)
  rw [Int.toNat_natCast, hsize] at hr
  exact hr
theorem Mk.first (w : World) (n : Nat) (es : List En) (cs : Array Value) (h : cs.size = n * 2) : Mk (w.alloc (.cells cs 48)) w.heap.size n es 0 := by
  have k := heap_alloc_new w (.cells cs 48)
  refine ⟨fun j hj => ?_, fun i => by simp only [World.frozen?]; rw [k]; simp, by rw [size_alloc]; omega⟩
  rw [cell_of_row _ _ _ _ 48 (0, 0) k, cell_of_row _ _ _ _ 48 (0, 0) k]
  exact ⟨_, _, Array.getElem?_eq_getElem (show j * 2 < cs.size by omega), Array.getElem?_eq_getElem (show j * 2 + 1 < cs.size by omega), fun q => absurd q (Nat.not_lt_zero _)⟩
end Go.Proofs.Ytcaddedkodjgcaa