/-
  The program's reader: what it keeps; refuse, readByte: contracts.
-/
import Derived.Test.YtjafjheffbbkmaaChD
import Derived.Test.YtjafjheffbbkmaaVMore2
namespace Go.Proofs.Ytjafjheffbbkmaa
open Go.RowKit
set_option linter.unusedVariables false

theorem readsV_kept {w w' : World} {a : Option Addr} {n c : Nat} {l : BB} (h : V.ReadsV w (.slice a n c) l) (hk : l ≠ [] → ∀ x, a = some x → w'.heap[x.block]? = w.heap[x.block]?) : V.ReadsV w' (.slice a n c) l := by
  obtain ⟨a', cap, h1, h2, h3, h4, h5, h6⟩ := h
  simp only [Value.slice.injEq] at h1
  obtain ⟨rfl, rfl, rfl⟩ := h1
  refine ⟨_, _, rfl, h2, h3, h4, h5, ?_⟩
  rcases h6 with h | ⟨b, off, ha, hc⟩
  · exact .inl h
  · by_cases h0 : l = []
    · exact .inl h0
    · refine .inr ⟨b, off, ha, fun i hi => (cell_kept (hk h0 ⟨b, off, none⟩ ha) _).trans (hc i hi)⟩
/-- The reader at rb: what is left, and the first error. -/
structure Rst (w : World) (rb : Nat) (s : Sst) : Prop where
  rest : ∃ a c, w.cell? ⟨rb, 0, none⟩ = some (.slice a s.rest.length c) ∧ V.ReadsV w (.slice a s.rest.length c) s.rest ∧ (s.rest ≠ [] → ∀ x, a = some x → x.block < rb)
  err : w.cell? ⟨rb, 1, none⟩ = some (.int .i64 s.err)
  free : ∀ i, w.frozen? ⟨rb, i, none⟩ = false
  nil : s.err ≠ 0 → s.rest = []
theorem Rst.lt {w : World} {rb : Nat} {s : Sst} (h : Rst w rb s) : rb < w.heap.size := World.block_lt_of_cell? w _ h.err
theorem Rst.kept {w w' : World} {rb : Nat} {s : Sst} (h : Rst w rb s) (hk : ∀ k, k ≤ rb → w'.heap[k]? = w.heap[k]?) : Rst w' rb s := by
  obtain ⟨a, c, h1, h2, h3⟩ := h.rest
  have e := hk rb (Nat.le_refl _)
  exact ⟨⟨a, c, (cell_kept e _).trans h1, readsV_kept h2 fun h0 x hx => hk _ (Nat.le_of_lt (h3 h0 x hx)), h3⟩, (cell_kept e _).trans h.err, fun i => by have := h.free i; simp only [World.frozen?] at this ⊢; rw [e]; exact this, h.nil⟩
theorem Rst.below {w w' : World} {rb B : Nat} {s : Sst} (h : Rst w rb s) (hb : Below B w w') (hB : rb < B) : Rst w' rb s := h.kept fun k hk => hb.block k (by omega)
theorem Rst.alloc {w : World} {rb : Nat} {s : Sst} (h : Rst w rb s) (o : Obj) : Rst (w.alloc o) rb s := h.below ((Below.refl _ _).alloc (Nat.le_refl _) o) h.lt
theorem Rst.set {w : World} {rb : Nat} {s : Sst} (h : Rst w rb s) {p : Addr} (hp : rb < p.block) (x : Value) : Rst (w.setCell p x) rb s := h.kept fun k hk => Below.heap_setCell _ _ _ _ (by omega)
theorem cell_set {w : World} {M j k : Nat} {v u : Value} (h : w.cell? ⟨M, j, none⟩ = some u) : (w.setCell ⟨M, k, none⟩ v).cell? ⟨M, j, none⟩ = some (if k = j then v else u) := by
  by_cases e : k = j
  · subst e
    rw [if_pos rfl]
    exact World.cell?_setCell_same' _ _ _ (by rw [h]; rfl)
  · rw [if_neg e]
    have hne : (⟨M, k, none⟩ : Addr) ≠ ⟨M, j, none⟩ := by intro h; injection h with _ h _; exact e h
    exact (World.cell?_setCell_other w _ _ v hne).trans h
/-- Another rest is kept. -/
theorem Rst.rested {w : World} {rb : Nat} {s : Sst} (h : Rst w rb s) {a : Option Addr} {n c : Nat} {l : BB} (h1 : V.ReadsV w (.slice a n c) l) (h2 : l ≠ [] → ∀ x, a = some x → x.block < rb) (h3 : s.err ≠ 0 → l = []) : Rst (w.setCell ⟨rb, 0, none⟩ (.slice a n c)) rb ⟨s.err, l⟩ := by
  obtain ⟨a0, c0, k1, k2, k3⟩ := h.rest
  have hn : n = l.length := by obtain ⟨_, _, e, _⟩ := h1; simp only [Value.slice.injEq] at e; exact e.2.1
  subst hn
  refine ⟨⟨a, c, by rw [cell_set k1]; rfl, readsV_kept h1 fun h0 x hx => Below.heap_setCell _ _ _ _ (by have := h2 h0 x hx; show x.block ≠ rb; omega), h2⟩, by rw [cell_set h.err]; rfl, fun i => by simp only [World.frozen?_setCell]; exact h.free i, h3⟩
theorem Rst.refused {w : World} {rb : Nat} {s : Sst} (h : Rst w rb s) {e : Nat} : Rst ((w.setCell ⟨rb, 1, none⟩ (.int .i64 e)).setCell ⟨rb, 0, none⟩ (.slice none 0 0)) rb ⟨e, []⟩ := by
  obtain ⟨a0, c0, k1, k2, k3⟩ := h.rest
  refine ⟨⟨none, 0, by rw [cell_set (cell_set k1)]; rfl, V.ReadsV.nil _, fun _ x hx => by cases hx⟩, by rw [cell_set (cell_set h.err)]; rfl, fun i => by simp only [World.frozen?_setCell]; exact h.free i, fun _ => rfl⟩
set_option maxRecDepth 100000 in
theorem refuse_any (rb e : Nat) (s : Sst) (w : World) (h : Rst w rb s) : Calls Try.prog 70 #[.pointer (some ⟨rb, 0, none⟩), .int .i64 e] w fun en w' => en = .returned (.tuple #[]) ∧ Rst w' rb (refuseS e s) ∧ Fr rb w w' := by
  have HS : Hid (Rst w rb s) := h
  obtain ⟨⟨a, c, h1, _, _⟩, h2, h3, _⟩ := h
  by_cases h0 : e = 0
  · subst h0
    have HE : Hid (refuseS 0 s = s) := by show _ = _; unfold refuseS; rw [if_neg (by simp)]
    go_enter Try.func70, Try.ntmps70
    go_wp2
    go_end0
    exact ⟨rfl, by rw [HE.out]; exact HS.out, Fr.refl _ _⟩
  · have hne : (((e : Nat) : Int) != 0) = true := by simp; omega
    have hnz : ¬ (e : Int) = 0 := by omega
    by_cases hs : s.err = 0
    · have HE : Hid (refuseS e s = ⟨e, []⟩) := by show _ = _; unfold refuseS; rw [if_pos ⟨h0, hs⟩]
      rw [hs] at h2
      clear hs h0
      generalize s.rest.length = n at *
      go_enter Try.func70, Try.ntmps70
      go_wp2
      go_end0
      exact ⟨rfl, by rw [HE.out]; exact HS.out.refused, ((Fr.refl _ _).setCell (p := ⟨rb, 1, none⟩) (.inl rfl) _).setCell (p := ⟨rb, 0, none⟩) (.inl rfl) _⟩
    · have HE : Hid (refuseS e s = s) := by show _ = _; unfold refuseS; rw [if_neg (by rintro ⟨_, h⟩; exact hs h)]
      have hs2 : ((s.err : Int) == 0) = false := by rw [beq_eq_false_iff_ne]; omega
      have hs3 : ¬ (s.err : Int) = 0 := by omega
      clear hs h0
      generalize hg : s.err = se at *
      clear hg
      generalize s.rest.length = n at *
      go_enter Try.func70, Try.ntmps70
      go_wp2
      go_end0
      exact ⟨rfl, by rw [HE.out]; exact HS.out, Fr.refl _ _⟩
set_option maxRecDepth 100000 in
theorem readByte_none (v : Value) (w : World) (h : V.ReadsV w v []) : Calls Try.prog 92 #[v] w fun e w' => e = .returned (.tuple #[.int .u8 0, .slice none 0 0, .int .i64 5]) ∧ w' = w := by
  obtain ⟨a, c, rfl, _⟩ := h
  simp only [List.length_nil]
  go_enter Try.func92, Try.ntmps92
  go_wp2
  go_ret3
  exact ⟨rfl, rfl⟩
set_option maxRecDepth 100000 in
theorem readByte_some (v : Value) (b : BitVec 8) (r : BB) (w : World) (h : V.ReadsV w v (b :: r)) : Calls Try.prog 92 #[v] w fun e w' => ∃ rv, e = .returned (.tuple #[.int .u8 b.toNat, rv, .int .i64 0]) ∧ V.ReadsV w' rv r ∧ V.Near v rv ∧ Below w.heap.size w w' := by
  have HR : Hid (V.ReadsV w v (b :: r)) := h
  obtain ⟨a, c, rfl, _⟩ := h
  have hc : (b :: r).length ≤ c := V.ReadsV.cap HR.out
  obtain ⟨g, off, rfl, hg, hcell⟩ := V.cells_of HR.out (by simp)
  have c0 := hcell 0 (by simp)
  have HB : Hid (V.B (V.nth (b :: r) 0) = (b.toNat : Int)) := rfl
  rw [HB.out, Nat.add_zero] at c0
  have hm : c ≤ 9223372036854775807 := by obtain ⟨_, _, e, _, _, q, _⟩ := HR.out; simp only [Value.slice.injEq] at e; rw [e.2.2]; exact q
  have hlb := b.isLt
  clear hcell
  have hlen : (b :: r).length = r.length + 1 := rfl
  rw [hlen] at hc ⊢
  rw [hlen] at HR
  clear hlen
  have H0 : Hid (∀ w', w' = w.drew → c = 1 → V.ReadsV w' (.slice (some ⟨g, off, none⟩) (r.length + 1 - 1) 0) r) := fun w' e hc1 => by
    subst e
    have := V.cut_tail0 (k := 0) (m := 1) (l := b :: r) (by simpa using HR.out) hc1
    simpa using this
  have H1 : Hid (∀ w', w' = w.drew → ¬ c = 1 → V.ReadsV w' (.slice (some ⟨g, off + 1, none⟩) (r.length + 1 - 1) (c - 1)) r) := fun w' e hc1 => by
    subst e
    have := V.cut_tail (k := 0) (m := 1) (l := b :: r) (by simpa using HR.out) (by omega) hc1
    simpa [V.add_plain] using this
  generalize b.toNat = bn at *
  generalize r.length = n at *
  go_enter Try.func92, Try.ntmps92
  go_wp2
  go_region
  go_wp2
  · go_ret3
    exact ⟨_, rfl, by simpa using H0.out _ rfl (by assumption), V.near_same _ _ _ _ _ _ _, (Below.refl _ _).drew⟩
  · go_ret3
    exact ⟨_, rfl, by simpa using H1.out _ rfl (by assumption), V.near_same _ _ _ _ _ _ _, (Below.refl _ _).drew⟩
set_option maxRecDepth 100000 in
theorem kidsOf_any (k : Nat) (w : World) : Calls Try.prog 95 #[.int .i64 k] w fun e w' => e = .returned (.int .i64 (kidsK k : Nat)) ∧ w' = w := by
  by_cases h5 : k < 5
  · have HE : Hid (kidsK k = 0) := by show _ = _; unfold kidsK; rw [if_pos (by omega)]
    go_enter Try.func95, Try.ntmps95
    go_wp2
    go_ret
    exact ⟨by rw [HE.out]; rfl, rfl⟩
  · by_cases h7 : k < 7
    · have HE : Hid (kidsK k = 1) := by show _ = _; unfold kidsK; rw [if_neg (by omega), if_pos (by omega)]
      go_enter Try.func95, Try.ntmps95
      go_wp2
      go_ret
      exact ⟨by rw [HE.out]; rfl, rfl⟩
    · have HE : Hid (kidsK k = 2) := by show _ = _; unfold kidsK; rw [if_neg (by omega), if_neg (by omega)]
      go_enter Try.func95, Try.ntmps95
      go_wp2
      go_ret
      exact ⟨by rw [HE.out]; rfl, rfl⟩
/-- The function itself, handed on. -/
def fn (n : Nat) : Value := .func (.func n) #[] #[]
theorem after_zero {α : Type} {f : Rds α} {s s' : Sst} {x : α} {r : BB} (h : f s.rest = .ok (x, r)) (he : s.err = 0) (hs : s' = ⟨0, r⟩) : After f s x s' := by
  unfold After
  rw [if_neg (by simp [he]), h]
  exact ⟨rfl, hs⟩
theorem after_bad {α : Type} {f : Rds α} {s s' : Sst} {x : α} {e : Nat} (h : f s.rest = .error e) (hz : e ≠ 0) (hn : s.err ≠ 0 → s.rest = []) (hs : s' = refuseS e ⟨s.err, []⟩) : After f s x s' := by
  unfold After
  by_cases he : s.err ≠ 0
  · rw [if_pos he, hs]
    unfold refuseS
    rw [if_neg (by rintro ⟨_, q⟩; exact he q)]
    have := hn he
    obtain ⟨a, b⟩ := s
    simp only at this ⊢
    rw [this]
  · rw [if_neg he, h, hs]
    have : s.err = 0 := by simpa using he
    unfold refuseS
    rw [if_pos ⟨hz, this⟩]
    exact ⟨hz, rfl⟩
theorem ok_zero {α : Type} {f : Rds α} {s : Sst} {x : α} {r : BB} (h : f s.rest = .ok (x, r)) (h0 : ∀ y, f [] ≠ .ok y) (hn : s.err ≠ 0 → s.rest = []) : s.err = 0 := by
  by_cases he : s.err = 0
  · exact he
  · rw [hn he] at h
    exact absurd h (h0 _)
end Go.Proofs.Ytjafjheffbbkmaa
