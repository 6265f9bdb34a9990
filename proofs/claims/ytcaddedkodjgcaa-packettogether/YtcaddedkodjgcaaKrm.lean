/-
  The document's reader of a message: what stands in memory meanwhile.
-/
import Derived.Test.YtcaddedkodjgcaaKtx
namespace Go.Proofs.Ytcaddedkodjgcaa
open Go.RowKit Pack
set_option linter.unusedVariables false
set_option linter.unusedSimpArgs false

abbrev Zc (w : World) (M : Nat) : Prop := Cl11 w M (.int .i64 0) (.int .i64 0) (.int .i64 0) (.int .i64 0) (.int .i64 0) (.int .i64 0) (.int .i64 0) (.int .i64 0) (.bool false) (.slice none 0 0) (.slice none 0 0)
/-- A message that is read, in block N; its answer's place, in block Z; the reader, in block K. -/
structure Mx (w0 w wr : World) (K : Nat) (v : Value) (b : BB) (s : St) (u0 u1 u2 u3 u4 u5 u6 u7 u8 u9 u10 : Value) : Prop where
  rd : Rdg w0 wr K v b s
  kx : Kx K w wr
  lt : K < w.heap.size
  z : Zc wr w.heap.size
  c : Cl11 wr (w.heap.size + 1) u0 u1 u2 u3 u4 u5 u6 u7 u8 u9 u10
section
variable {w0 w wr w' : World} {K : Nat} {v : Value} {b : BB} {s s' : St} {u0 u1 u2 u3 u4 u5 u6 u7 u8 u9 u10 : Value}
theorem Mx.num (h : Mx w0 w wr K v b s u0 u1 u2 u3 u4 u5 u6 u7 u8 u9 u10) (hr : Rdg w0 w' K v b s') (hx : Kx K wr w') : Mx w0 w w' K v b s' u0 u1 u2 u3 u4 u5 u6 u7 u8 u9 u10 := by
  have h1 := h.lt
  exact ⟨hr, h.kx.trans hx, h.lt, h.z.kept (hx.k _ h.z.lt (by omega)), h.c.kept (hx.k _ h.c.lt (by omega))⟩
theorem Mx.below (h : Mx w0 w wr K v b s u0 u1 u2 u3 u4 u5 u6 u7 u8 u9 u10) (hb : Below wr.heap.size wr w') : Mx w0 w w' K v b s u0 u1 u2 u3 u4 u5 u6 u7 u8 u9 u10 := h.num (h.rd.below hb) (Kx.below hb (Nat.le_of_lt h.rd.lt))
/-- Something above its blocks was turned. -/
theorem Mx.over (h : Mx w0 w wr K v b s u0 u1 u2 u3 u4 u5 u6 u7 u8 u9 u10) (hb : Below (w.heap.size + 2) wr w') : Mx w0 w w' K v b s u0 u1 u2 u3 u4 u5 u6 u7 u8 u9 u10 := by
  have h1 := h.lt
  have h2 := h.rd.z
  exact ⟨h.rd.kept (hb.mono (by omega)) (hb.block _ (by omega)), ⟨h.kx.b.trans (hb.mono (by omega)), fun g hg hn => (hb.block _ (by omega)).trans (h.kx.k g hg hn)⟩, h.lt, h.z.kept (hb.block _ (by omega)), h.c.kept (hb.block _ (by omega))⟩
theorem Mx.put (h : Mx w0 w wr K v b s u0 u1 u2 u3 u4 u5 u6 u7 u8 u9 u10) (j : Nat) (x : Value) : Mx w0 w (wr.setCell ⟨w.heap.size + 1, j, none⟩ x) K v b s (if j = 0 then x else u0) (if j = 1 then x else u1) (if j = 2 then x else u2) (if j = 3 then x else u3) (if j = 4 then x else u4) (if j = 5 then x else u5) (if j = 6 then x else u6) (if j = 7 then x else u7) (if j = 8 then x else u8) (if j = 9 then x else u9) (if j = 10 then x else u10) := by
  have h1 := h.lt
  have h2 := h.rd.z
  have hb : Below (w.heap.size + 1) wr (wr.setCell ⟨w.heap.size + 1, j, none⟩ x) := (Below.refl _ _).setCell (p := ⟨w.heap.size + 1, j, none⟩) (Nat.le_refl _) _
  exact ⟨h.rd.kept (hb.mono (by omega)) (hb.block _ (by omega)), ⟨h.kx.b.trans (hb.mono (by omega)), fun g hg hn => (hb.block _ (by omega)).trans (h.kx.k g hg hn)⟩, h.lt, h.z.kept (hb.block _ (by omega)), h.c.put j x⟩
end
theorem numS_pos (top : Nat) (s : St) : 0 ≤ (numS top s).1 ∧ (numS top s).1 ≤ top := by
  unfold numS
  split
  · cases rd 0 s.1 with
    | inl k => simp only; split <;> simp only <;> omega
    | inr b => cases b <;> simp only <;> omega
  · simp only; omega
/-- The two boxes, new. -/
theorem Mx.first {w0 w : World} {K : Nat} {v : Value} {b : BB} {s : St} (h : Rdg w0 w K v b s) (f t : Int) : Mx w0 w ((w.alloc (Obj.cells #[.int .i64 0, .int .i64 0, .int .i64 0, .int .i64 0, .int .i64 0, .int .i64 0, .int .i64 0, .int .i64 0, .bool false, .slice none 0 0, .slice none 0 0] 51)).alloc (Obj.cells #[.int .i64 0, .int .i64 0, .int .i64 f, .int .i64 t, .int .i64 0, .int .i64 0, .int .i64 0, .int .i64 0, .bool false, .slice none 0 0, .slice none 0 0] 51)) K v b s (.int .i64 0) (.int .i64 0) (.int .i64 f) (.int .i64 t) (.int .i64 0) (.int .i64 0) (.int .i64 0) (.int .i64 0) (.bool false) (.slice none 0 0) (.slice none 0 0) := by
  have hlt := h.lt
  have hb : Below w.heap.size w ((w.alloc (Obj.cells #[.int .i64 0, .int .i64 0, .int .i64 0, .int .i64 0, .int .i64 0, .int .i64 0, .int .i64 0, .int .i64 0, .bool false, .slice none 0 0, .slice none 0 0] 51)).alloc (Obj.cells #[.int .i64 0, .int .i64 0, .int .i64 f, .int .i64 t, .int .i64 0, .int .i64 0, .int .i64 0, .int .i64 0, .bool false, .slice none 0 0, .slice none 0 0] 51)) := ((Below.refl _ _).alloc (Nat.le_refl _) _).alloc (by rw [size_alloc]; omega) _
  refine ⟨h.below hb, Kx.below hb (Nat.le_of_lt hlt), hlt, ?_, ?_⟩
  · exact (Cl11.new w _ _ _ _ _ _ _ _ _ _ _ _).below ((Below.refl _ _).alloc (Nat.le_refl _) _)
  · have := Cl11.new (w.alloc (Obj.cells #[.int .i64 0, .int .i64 0, .int .i64 0, .int .i64 0, .int .i64 0, .int .i64 0, .int .i64 0, .int .i64 0, .bool false, .slice none 0 0, .slice none 0 0] 51)) (.int .i64 0) (.int .i64 0) (.int .i64 f) (.int .i64 t) (.int .i64 0) (.int .i64 0) (.int .i64 0) (.int .i64 0) (.bool false) (.slice none 0 0) (.slice none 0 0) 51
    rw [size_alloc] at this
    exact this
theorem cell2_put {w : World} {g : Nat} {a c : Value} (h : Cell2 w g a c) (j : Nat) (x : Value) : Cell2 (w.setCell ⟨g, j, none⟩ x) g (if j = 0 then x else a) (if j = 1 then x else c) :=
  ⟨cell_set h.c0, cell_set h.c1, fun i => by simp only [World.frozen?_setCell]; exact h.free i⟩
/-- What the loop keeps. -/
structure Ml (w0 w wr : World) (K : Nat) (v : Value) (b : BB) (s : St) (es : List En) (u0 u1 u2 u3 u4 u5 u6 u7 u8 : Value) (ea : Option Addr) (ec : Nat) : Prop where
  m : Mx w0 w wr K v b s u0 u1 u2 u3 u4 u5 u6 u7 u8 (.slice ea es.length ec) (.slice none 0 0)
  g : Gz wr (w.heap.size + 2) (fun g => (g < w0.heap.size ∧ SB v g) ∨ w.heap.size + 2 ≤ g) (.slice ea es.length ec) es
theorem loadMsg {w : World} {Q : Nat} {v0 v1 v2 v3 v4 v5 v6 v7 v8 v9 v10 : Value} (h : Cl11 w Q v0 v1 v2 v3 v4 v5 v6 v7 v8 v9 v10) : (loadVar 51 ⟨Q, 0, none⟩).run Try.prog w = .ok (.agg #[v0, v1, v2, v3, v4, v5, v6, v7, v8, v9, v10]) w := by
  have hl : (loadCells ⟨Q, 0, none⟩ 11).run Try.prog w = .ok #[v0, v1, v2, v3, v4, v5, v6, v7, v8, v9, v10] w := by
    refine run_loadCells_list (P := Try.prog) w ⟨Q, 0, none⟩ [v0, v1, v2, v3, v4, v5, v6, v7, v8, v9, v10] fun j v hj => ?_
    rw [add_plain, Nat.zero_add]
    have hlt : j < 11 := (List.getElem?_eq_some_iff.1 hj).1
    have : j = 0 ∨ j = 1 ∨ j = 2 ∨ j = 3 ∨ j = 4 ∨ j = 5 ∨ j = 6 ∨ j = 7 ∨ j = 8 ∨ j = 9 ∨ j = 10 := by omega
    rcases this with rfl | rfl | rfl | rfl | rfl | rfl | rfl | rfl | rfl | rfl | rfl <;> (rw [← hj])
    · exact h.c0
    · exact h.c1
    · exact h.c2
    · exact h.c3
    · exact h.c4
    · exact h.c5
    · exact h.c6
    · exact h.c7
    · exact h.c8
    · exact h.c9
    · exact h.c10
  simp only [loadVar, Sem.run_bind, Sem.run_pure, Try.isAgg51, Try.sizeOf51, Result.andThen_ok, hl, if_true]
theorem resMsgR {w : World} {Q : Nat} {v0 v1 v2 v3 v4 v5 v6 v7 v8 v9 v10 : Value} (tmps : Array Value) (h : Cl11 w Q v0 v1 v2 v3 v4 v5 v6 v7 v8 v9 v10) (h4 : tmps.getD 6 undef = .pointer (some ⟨Q, 0, none⟩)) : (results Try.f36 tmps).run Try.prog w = .ok (.agg #[v0, v1, v2, v3, v4, v5, v6, v7, v8, v9, v10]) w := by
  have h4' : tmps[6]?.getD undef = .pointer (some ⟨Q, 0, none⟩) := by simpa using h4
  simp [results, Try.results36, h4', loadMsg h, asAddr]
theorem ents_next {s : St} {i : Nat} (h : (entsS i s).2.2 = 0) : entsS (i + 1) s = ((entsS i s).1 ++ [(entS (entsS i s).2).1], (entS (entsS i s).2).2) := by
  rw [entsS, if_pos h]
theorem ents_stop {s : St} {i : Nat} (h : ¬ (entsS i s).2.2 = 0) : ∀ n, entsS (i + n) s = entsS i s
  | 0 => rfl
  | n + 1 => by
    have := ents_stop h n
    rw [← Nat.add_assoc, entsS, this, if_neg h]
theorem ents_len2 (s : St) : ∀ n, (entsS n s).1.length ≤ n
  | 0 => Nat.le_refl _
  | n + 1 => by
    have := ents_len2 s n
    rw [entsS]
    split
    · rw [List.length_append]; simp; omega
    · omega
set_option maxRecDepth 100000 in
set_option maxHeartbeats 4000000 in
theorem RMsgR_any {w0 w : World} {K : Nat} {v : Value} {b : BB} {s : St} (f t : Int) (h : Rdg w0 w K v b s) : Calls Try.prog 36 #[.pointer (some ⟨K, 0, none⟩), .int .i64 f, .int .i64 t] w fun e w' => ∃ ax, e = .returned (msA ax (msgS f t s).1) ∧ MsV w' (fun g => (g < w0.heap.size ∧ SB v g) ∨ w.heap.size ≤ g) ax (msgS f t s).1 ∧ Rdg w0 w' K v b (msgS f t s).2 ∧ Kx K w w' := by
  obtain ⟨p0, hp0⟩ : ∃ p, numS 7 s = p := ⟨_, rfl⟩
  obtain ⟨p1, hp1⟩ : ∃ p, numS 64 p0.2 = p := ⟨_, rfl⟩
  obtain ⟨p2, hp2⟩ : ∃ p, numS 1099511627776 p1.2 = p := ⟨_, rfl⟩
  obtain ⟨p3, hp3⟩ : ∃ p, numS 1099511627776 p2.2 = p := ⟨_, rfl⟩
  obtain ⟨p4, hp4⟩ : ∃ p, numS 1099511627776 p3.2 = p := ⟨_, rfl⟩
  obtain ⟨p5, hp5⟩ : ∃ p, numS 1099511627776 p4.2 = p := ⟨_, rfl⟩
  obtain ⟨p6, hp6⟩ : ∃ p, numS 1 p5.2 = p := ⟨_, rfl⟩
  obtain ⟨p7, hp7⟩ : ∃ p, numS 8 p6.2 = p := ⟨_, rfl⟩
  have HN0 : Hid (∀ wx, Rdg w0 wx K v b s → Calls Try.prog 35 #[.pointer (some ⟨K, 0, none⟩), .int .u64 7] wx fun e w' => e = .returned (.int .i64 p0.1) ∧ Rdg w0 w' K v b p0.2 ∧ Kx K wx w') := fun wx q => by have := Num_any 7 (by decide) q; rw [hp0] at this; exact this
  have HN1 : Hid (∀ wx, Rdg w0 wx K v b p0.2 → Calls Try.prog 35 #[.pointer (some ⟨K, 0, none⟩), .int .u64 64] wx fun e w' => e = .returned (.int .i64 p1.1) ∧ Rdg w0 w' K v b p1.2 ∧ Kx K wx w') := fun wx q => by have := Num_any 64 (by decide) q; rw [hp1] at this; exact this
  have HN2 : Hid (∀ wx, Rdg w0 wx K v b p1.2 → Calls Try.prog 35 #[.pointer (some ⟨K, 0, none⟩), .int .u64 1099511627776] wx fun e w' => e = .returned (.int .i64 p2.1) ∧ Rdg w0 w' K v b p2.2 ∧ Kx K wx w') := fun wx q => by have := Num_any 1099511627776 (by decide) q; rw [hp2] at this; exact this
  have HN3 : Hid (∀ wx, Rdg w0 wx K v b p2.2 → Calls Try.prog 35 #[.pointer (some ⟨K, 0, none⟩), .int .u64 1099511627776] wx fun e w' => e = .returned (.int .i64 p3.1) ∧ Rdg w0 w' K v b p3.2 ∧ Kx K wx w') := fun wx q => by have := Num_any 1099511627776 (by decide) q; rw [hp3] at this; exact this
  have HN4 : Hid (∀ wx, Rdg w0 wx K v b p3.2 → Calls Try.prog 35 #[.pointer (some ⟨K, 0, none⟩), .int .u64 1099511627776] wx fun e w' => e = .returned (.int .i64 p4.1) ∧ Rdg w0 w' K v b p4.2 ∧ Kx K wx w') := fun wx q => by have := Num_any 1099511627776 (by decide) q; rw [hp4] at this; exact this
  have HN5 : Hid (∀ wx, Rdg w0 wx K v b p4.2 → Calls Try.prog 35 #[.pointer (some ⟨K, 0, none⟩), .int .u64 1099511627776] wx fun e w' => e = .returned (.int .i64 p5.1) ∧ Rdg w0 w' K v b p5.2 ∧ Kx K wx w') := fun wx q => by have := Num_any 1099511627776 (by decide) q; rw [hp5] at this; exact this
  have HN6 : Hid (∀ wx, Rdg w0 wx K v b p5.2 → Calls Try.prog 35 #[.pointer (some ⟨K, 0, none⟩), .int .u64 1] wx fun e w' => e = .returned (.int .i64 p6.1) ∧ Rdg w0 w' K v b p6.2 ∧ Kx K wx w') := fun wx q => by have := Num_any 1 (by decide) q; rw [hp6] at this; exact this
  have HN7 : Hid (∀ wx, Rdg w0 wx K v b p6.2 → Calls Try.prog 35 #[.pointer (some ⟨K, 0, none⟩), .int .u64 8] wx fun e w' => e = .returned (.int .i64 p7.1) ∧ Rdg w0 w' K v b p7.2 ∧ Kx K wx w') := fun wx q => by have := Num_any 8 (by decide) q; rw [hp7] at this; exact this
  have e0 : numsS topL s = ([p0.1, p1.1, p2.1, p3.1, p4.1, p5.1, p6.1, p7.1], p7.2) := by
    unfold topL
    simp only [numsS, hp0, hp1, hp2, hp3, hp4, hp5, hp6, hp7]
  obtain ⟨n, hn⟩ : ∃ n : Nat, p7.1 = n := ⟨p7.1.toNat, by have := (numS_pos 8 p6.2).1; rw [hp7] at this; omega⟩
  have hn8 : n ≤ 8 := by have := (numS_pos 8 p6.2).2; rw [hp7, hn] at this; omega
  have hlt := h.lt
  have hzz := h.z
  have H0 : Hid (Mx w0 w ((w.alloc (Obj.cells #[.int .i64 0, .int .i64 0, .int .i64 0, .int .i64 0, .int .i64 0, .int .i64 0, .int .i64 0, .int .i64 0, .bool false, .slice none 0 0, .slice none 0 0] 51)).alloc (Obj.cells #[.int .i64 0, .int .i64 0, .int .i64 f, .int .i64 t, .int .i64 0, .int .i64 0, .int .i64 0, .int .i64 0, .bool false, .slice none 0 0, .slice none 0 0] 51)) K v b s (.int .i64 0) (.int .i64 0) (.int .i64 f) (.int .i64 t) (.int .i64 0) (.int .i64 0) (.int .i64 0) (.int .i64 0) (.bool false) (.slice none 0 0) (.slice none 0 0)) := Mx.first h f t
  have HFin : Hid (∀ (w' : World) (e : Ending) (ea da : Option Addr) (ec dc : Nat) (es : List En) (s1 s2 : St) (d : BB), entsS n p7.2 = (es, s1) → txtS s1 = (d, s2) → e = .returned (.agg #[.int .i64 p0.1, .int .i64 p1.1, .int .i64 f, .int .i64 t, .int .i64 p2.1, .int .i64 p3.1, .int .i64 p4.1, .int .i64 p5.1, .bool (p6.1 == 1), .slice ea es.length ec, .slice da d.length dc]) → EnsV w' (fun g => (g < w0.heap.size ∧ SB v g) ∨ w.heap.size ≤ g) ea ec es → SrcV w0 v da dc d → Rdg w0 w' K v b s2 → Kx K w w' → ∃ ax, e = .returned (msA ax (msgS f t s).1) ∧ MsV w' (fun g => (g < w0.heap.size ∧ SB v g) ∨ w.heap.size ≤ g) ax (msgS f t s).1 ∧ Rdg w0 w' K v b (msgS f t s).2 ∧ Kx K w w') := fun w' e ea da ec dc es s1 s2 d q1 q2 q3 q4 q5 q6 q7 => by
    have e1 : msgS f t s = (msgOf f t [p0.1, p1.1, p2.1, p3.1, p4.1, p5.1, p6.1, p7.1] es d, s2) := by
      unfold msgS
      rw [e0]
      simp only [List.getD_cons_zero, List.getD_cons_succ]
      rw [hn, Int.toNat_natCast, q1]
      simp only
      rw [q2]
    rw [e1]
    refine ⟨⟨ea, ec, da, dc⟩, q3, ⟨q4, q5.r.below q6.l, fun h0 x hx => ?_⟩, q6, q7⟩
    have hs := q5.s (fun e => h0 (by show d.length = 0; rw [e]; rfl)) x hx
    obtain ⟨b1, o1, e2, e3, _⟩ := cells_of q5.r (show 0 < d.length by have h0 : d.length ≠ 0 := h0; omega)
    have hx : da = some x := hx
    rw [hx] at e2
    cases e2
    exact .inl ⟨e3, hs⟩
  have HE : Hid (∀ wx s, Rdg w0 wx K v b s → Calls Try.prog 35 #[.pointer (some ⟨K, 0, none⟩), .int .u64 1099511627776] wx fun e w' => e = .returned (.int .i64 (numS 1099511627776 s).1) ∧ Rdg w0 w' K v b (numS 1099511627776 s).2 ∧ Kx K wx w') := fun wx s q => Num_any 1099511627776 (by decide) q
  have HTx : Hid (∀ wx s, Rdg w0 wx K v b s → Calls Try.prog 50 #[.pointer (some ⟨K, 0, none⟩)] wx (TxP w0 wx K v b (txtS s).1 (txtS s).2)) := fun wx s q => Text_any q
  rw [hn] at HN7
  clear hp0 hp1 hp2 hp3 hp4 hp5 hp6 hp7 e0 hn h
  go_enter Try.func36, Try.ntmps36
  go_wp2_with (first
      | (go_at_call 35; refine (HN7.out _ H7.out.rd).mono ?_; rintro e w8 ⟨rfl, q1, q2⟩; have G7 : Hid (Mx w0 w w8 K v b p7.2 (.int .i64 p0.1) (.int .i64 p1.1) (.int .i64 f) (.int .i64 t) (.int .i64 p2.1) (.int .i64 p3.1) (.int .i64 p4.1) (.int .i64 p5.1) (.bool (p6.1 == 1)) (.slice none 0 0) (.slice none 0 0)) := H7.out.num q1 q2; clear q1 q2)
      | (go_at_call 35; refine (HN6.out _ H6.out.rd).mono ?_; rintro e w7 ⟨rfl, q1, q2⟩; have G6 : Hid (Mx w0 w w7 K v b p6.2 (.int .i64 p0.1) (.int .i64 p1.1) (.int .i64 f) (.int .i64 t) (.int .i64 p2.1) (.int .i64 p3.1) (.int .i64 p4.1) (.int .i64 p5.1) (.bool false) (.slice none 0 0) (.slice none 0 0)) := H6.out.num q1 q2; obtain ⟨c60, c61, c62, c63, c64, c65, c66, c67, c68, c69, c610, cf6⟩ := G6.out.c; have H7 : Hid (Mx w0 w (w7.setCell ⟨w.heap.size + 1, 8, none⟩ (.bool (p6.1 == 1))) K v b p6.2 (.int .i64 p0.1) (.int .i64 p1.1) (.int .i64 f) (.int .i64 t) (.int .i64 p2.1) (.int .i64 p3.1) (.int .i64 p4.1) (.int .i64 p5.1) (.bool (p6.1 == 1)) (.slice none 0 0) (.slice none 0 0)) := G6.out.put 8 _; clear q1 q2)
      | (go_at_call 35; refine (HN5.out _ H5.out.rd).mono ?_; rintro e w6 ⟨rfl, q1, q2⟩; have G5 : Hid (Mx w0 w w6 K v b p5.2 (.int .i64 p0.1) (.int .i64 p1.1) (.int .i64 f) (.int .i64 t) (.int .i64 p2.1) (.int .i64 p3.1) (.int .i64 p4.1) (.int .i64 0) (.bool false) (.slice none 0 0) (.slice none 0 0)) := H5.out.num q1 q2; obtain ⟨c50, c51, c52, c53, c54, c55, c56, c57, c58, c59, c510, cf5⟩ := G5.out.c; have H6 : Hid (Mx w0 w (w6.setCell ⟨w.heap.size + 1, 7, none⟩ (.int .i64 p5.1)) K v b p5.2 (.int .i64 p0.1) (.int .i64 p1.1) (.int .i64 f) (.int .i64 t) (.int .i64 p2.1) (.int .i64 p3.1) (.int .i64 p4.1) (.int .i64 p5.1) (.bool false) (.slice none 0 0) (.slice none 0 0)) := G5.out.put 7 _; clear q1 q2)
      | (go_at_call 35; refine (HN4.out _ H4.out.rd).mono ?_; rintro e w5 ⟨rfl, q1, q2⟩; have G4 : Hid (Mx w0 w w5 K v b p4.2 (.int .i64 p0.1) (.int .i64 p1.1) (.int .i64 f) (.int .i64 t) (.int .i64 p2.1) (.int .i64 p3.1) (.int .i64 0) (.int .i64 0) (.bool false) (.slice none 0 0) (.slice none 0 0)) := H4.out.num q1 q2; obtain ⟨c40, c41, c42, c43, c44, c45, c46, c47, c48, c49, c410, cf4⟩ := G4.out.c; have H5 : Hid (Mx w0 w (w5.setCell ⟨w.heap.size + 1, 6, none⟩ (.int .i64 p4.1)) K v b p4.2 (.int .i64 p0.1) (.int .i64 p1.1) (.int .i64 f) (.int .i64 t) (.int .i64 p2.1) (.int .i64 p3.1) (.int .i64 p4.1) (.int .i64 0) (.bool false) (.slice none 0 0) (.slice none 0 0)) := G4.out.put 6 _; clear q1 q2)
      | (go_at_call 35; refine (HN3.out _ H3.out.rd).mono ?_; rintro e w4 ⟨rfl, q1, q2⟩; have G3 : Hid (Mx w0 w w4 K v b p3.2 (.int .i64 p0.1) (.int .i64 p1.1) (.int .i64 f) (.int .i64 t) (.int .i64 p2.1) (.int .i64 0) (.int .i64 0) (.int .i64 0) (.bool false) (.slice none 0 0) (.slice none 0 0)) := H3.out.num q1 q2; obtain ⟨c30, c31, c32, c33, c34, c35, c36, c37, c38, c39, c310, cf3⟩ := G3.out.c; have H4 : Hid (Mx w0 w (w4.setCell ⟨w.heap.size + 1, 5, none⟩ (.int .i64 p3.1)) K v b p3.2 (.int .i64 p0.1) (.int .i64 p1.1) (.int .i64 f) (.int .i64 t) (.int .i64 p2.1) (.int .i64 p3.1) (.int .i64 0) (.int .i64 0) (.bool false) (.slice none 0 0) (.slice none 0 0)) := G3.out.put 5 _; clear q1 q2)
      | (go_at_call 35; refine (HN2.out _ H2.out.rd).mono ?_; rintro e w3 ⟨rfl, q1, q2⟩; have G2 : Hid (Mx w0 w w3 K v b p2.2 (.int .i64 p0.1) (.int .i64 p1.1) (.int .i64 f) (.int .i64 t) (.int .i64 0) (.int .i64 0) (.int .i64 0) (.int .i64 0) (.bool false) (.slice none 0 0) (.slice none 0 0)) := H2.out.num q1 q2; obtain ⟨c20, c21, c22, c23, c24, c25, c26, c27, c28, c29, c210, cf2⟩ := G2.out.c; have H3 : Hid (Mx w0 w (w3.setCell ⟨w.heap.size + 1, 4, none⟩ (.int .i64 p2.1)) K v b p2.2 (.int .i64 p0.1) (.int .i64 p1.1) (.int .i64 f) (.int .i64 t) (.int .i64 p2.1) (.int .i64 0) (.int .i64 0) (.int .i64 0) (.bool false) (.slice none 0 0) (.slice none 0 0)) := G2.out.put 4 _; clear q1 q2)
      | (go_at_call 35; refine (HN1.out _ H1.out.rd).mono ?_; rintro e w2 ⟨rfl, q1, q2⟩; have G1 : Hid (Mx w0 w w2 K v b p1.2 (.int .i64 p0.1) (.int .i64 0) (.int .i64 f) (.int .i64 t) (.int .i64 0) (.int .i64 0) (.int .i64 0) (.int .i64 0) (.bool false) (.slice none 0 0) (.slice none 0 0)) := H1.out.num q1 q2; obtain ⟨c10, c11, c12, c13, c14, c15, c16, c17, c18, c19, c110, cf1⟩ := G1.out.c; have H2 : Hid (Mx w0 w (w2.setCell ⟨w.heap.size + 1, 1, none⟩ (.int .i64 p1.1)) K v b p1.2 (.int .i64 p0.1) (.int .i64 p1.1) (.int .i64 f) (.int .i64 t) (.int .i64 0) (.int .i64 0) (.int .i64 0) (.int .i64 0) (.bool false) (.slice none 0 0) (.slice none 0 0)) := G1.out.put 1 _; clear q1 q2)
      | (go_at_call 35; refine (HN0.out _ H0.out.rd).mono ?_; rintro e w1 ⟨rfl, q1, q2⟩; have G0 : Hid (Mx w0 w w1 K v b p0.2 (.int .i64 0) (.int .i64 0) (.int .i64 f) (.int .i64 t) (.int .i64 0) (.int .i64 0) (.int .i64 0) (.int .i64 0) (.bool false) (.slice none 0 0) (.slice none 0 0)) := H0.out.num q1 q2; obtain ⟨c00, c01, c02, c03, c04, c05, c06, c07, c08, c09, c010, cf0⟩ := G0.out.c; have H1 : Hid (Mx w0 w (w1.setCell ⟨w.heap.size + 1, 0, none⟩ (.int .i64 p0.1)) K v b p0.2 (.int .i64 p0.1) (.int .i64 0) (.int .i64 f) (.int .i64 t) (.int .i64 0) (.int .i64 0) (.int .i64 0) (.int .i64 0) (.bool false) (.slice none 0 0) (.slice none 0 0)) := G0.out.put 0 _; clear q1 q2))
  have HM : Hid (∃ ea ec, Ml w0 w w8 K v b (entsS 0 p7.2).2 (entsS 0 p7.2).1 (.int .i64 p0.1) (.int .i64 p1.1) (.int .i64 f) (.int .i64 t) (.int .i64 p2.1) (.int .i64 p3.1) (.int .i64 p4.1) (.int .i64 p5.1) (.bool (p6.1 == 1)) ea ec) := ⟨none, 0, G7.out, Gz.nil _ _ _⟩
  clear c00 c01 c02 c03 c04 c05 c06 c07 c08 c09 c010 c10 c11 c12 c13 c14 c15 c16 c17 c18 c19 c110 c20 c21 c22 c23 c24 c25 c26 c27 c28 c29 c210 c30 c31 c32 c33 c34 c35 c36 c37 c38 c39 c310 c40 c41 c42 c43 c44 c45 c46 c47 c48 c49 c410 c50 c51 c52 c53 c54 c55 c56 c57 c58 c59 c510 c60 c61 c62 c63 c64 c65 c66 c67 c68 c69 c610 cf0 cf1 cf2 cf3 cf4 cf5 cf6 HN0 HN1 HN2 HN3 HN4 HN5 HN6 HN7 H0 H1 H2 H3 H4 H5 H6 H7 G0 G1 G2 G3 G4 G5 G6 G7
  go_loopw [10] (fun y wr => ∃ (i : Nat), i ≤ n ∧ y = .int .i64 i ∧ Hid (∃ ea ec, Ml w0 w wr K v b (entsS i p7.2).2 (entsS i p7.2).1 (.int .i64 p0.1) (.int .i64 p1.1) (.int .i64 f) (.int .i64 t) (.int .i64 p2.1) (.int .i64 p3.1) (.int .i64 p4.1) (.int .i64 p5.1) (.bool (p6.1 == 1)) ea ec)) (fun y _ => n - (intOf y).toNat)
  case atStart => exact ⟨0, Nat.zero_le _, rfl, HM.out⟩
  case round =>
    clear HM
    obtain ⟨i, hi, rfl, HR⟩ := hrel
    obtain ⟨ea, ec, HQ⟩ := HR.out
    have HQ : Hid (Ml w0 w wr K v b (entsS i p7.2).2 (entsS i p7.2).1 (.int .i64 p0.1) (.int .i64 p1.1) (.int .i64 f) (.int .i64 t) (.int .i64 p2.1) (.int .i64 p3.1) (.int .i64 p4.1) (.int .i64 p5.1) (.bool (p6.1 == 1)) ea ec) := HQ
    clear HR
    obtain ⟨rk, _, _, r0, r1, r2, rf⟩ := HQ.out.m.rd.c
    have hK : K < wr.heap.size := HQ.out.m.rd.lt
    by_cases hgo : i < n ∧ (entsS i p7.2).2.2 = 0
    · obtain ⟨hlt2, her⟩ := hgo
      have HNx := ents_next her
      have HNx2 : Hid (entsS (i + 1) p7.2 = ((entsS i p7.2).1 ++ [(entS (entsS i p7.2).2).1], (entS (entsS i p7.2).2).2)) := HNx
      have hln := ents_len2 p7.2 i
      rw [her] at r2
      clear HNx her
      generalize entsS i p7.2 = q at *
      obtain ⟨q1, hq1⟩ : ∃ p, numS 1099511627776 q.2 = p := ⟨_, rfl⟩
      obtain ⟨q2, hq2⟩ : ∃ p, txtS q1.2 = p := ⟨_, rfl⟩
      have hent : entS q.2 = ((q1.1, q2.1), q2.2) := by unfold entS; rw [hq1, hq2]
      rw [hent] at HNx2
      have HX : Hid (Mx w0 w (wr.alloc (.cells #[.int .i64 0, .slice none 0 0] 48)) K v b q.2 (.int .i64 p0.1) (.int .i64 p1.1) (.int .i64 f) (.int .i64 t) (.int .i64 p2.1) (.int .i64 p3.1) (.int .i64 p4.1) (.int .i64 p5.1) (.bool (p6.1 == 1)) (.slice ea q.1.length ec) (.slice none 0 0)) := HQ.out.m.below ((Below.refl _ _).alloc (Nat.le_refl _) _)
      have HC2 : Hid (Cell2 (wr.alloc (.cells #[.int .i64 0, .slice none 0 0] 48)) wr.heap.size (.int .i64 0) (.slice none 0 0)) := Cell2.new _ _ _ _
      have hsz : (wr.alloc (.cells #[.int .i64 0, .slice none 0 0] 48)).heap.size = wr.heap.size + 1 := size_alloc _ _
      have hB : w.heap.size + 2 ≤ wr.heap.size := HQ.out.m.c.lt
      have hne : wr.heap.size ≠ K := by omega
      have hE1 := HE.out
      have HE1 : Hid (∀ wx, Rdg w0 wx K v b q.2 → Calls Try.prog 35 #[.pointer (some ⟨K, 0, none⟩), .int .u64 1099511627776] wx fun e w' => e = .returned (.int .i64 q1.1) ∧ Rdg w0 w' K v b q1.2 ∧ Kx K wx w') := fun wx z => by have := hE1 wx q.2 z; rw [hq1] at this; exact this
      have hT1 := HTx.out
      have HT1 : Hid (∀ wx, Rdg w0 wx K v b q1.2 → Calls Try.prog 50 #[.pointer (some ⟨K, 0, none⟩)] wx (TxP w0 wx K v b q2.1 q2.2)) := fun wx z => by have := hT1 wx q1.2 z; rw [hq2] at this; exact this
      have hin : InR q1.1 := by have := numS_pos 1099511627776 q.2; rw [hq1] at this; unfold InR; omega
      have HIn : Hid (InR q1.1) := hin
      clear hE1 hT1 hent hq1 hq2 hin
      have HLn : Hid (q.1.length + [(q1.1, q2.1)].length ≤ 1048576) := by show _ ≤ _; simp only [List.length_cons, List.length_nil]; omega
      go_wp2_with (first
        | (at_builtin; refine list_app (B := w.heap.size + 2) (S := (fun g => (g < w0.heap.size ∧ SB v g) ∨ w.heap.size + 2 ≤ g)) (P := fun g => (g < w0.heap.size ∧ SB v g) ∨ g = w2.heap.size) (ts := q.1) (l := [(q1.1, q2.1)]) rfl (.tmp 60) (.tmp 62) rfl (HGz.out.below ((Below.refl _ _).alloc (Nat.le_refl _) _)) (EnsV.one (by first | rfl | rw [size_set]) (Or.inr (by first | rfl | rw [size_set])) HRe.out) rfl (fun g hg _ => HPp.out g hg) (Nat.le_trans (by rw [size_set]; exact hB2) (le_alloc _ _)) rfl rfl HLn.out ?_; intro v9 w9 g1 g2 g3; obtain ⟨a9, c9, rfl⟩ := Gz.form g1; have HG9 : Hid (Gz w9 (w.heap.size + 2) (fun g => (g < w0.heap.size ∧ SB v g) ∨ w.heap.size + 2 ≤ g) (.slice a9 (q.1 ++ [(q1.1, q2.1)]).length c9) (q.1 ++ [(q1.1, q2.1)])) := g1; have HX9 : Hid (Mx w0 w w9 K v b q2.2 (.int .i64 p0.1) (.int .i64 p1.1) (.int .i64 f) (.int .i64 t) (.int .i64 p2.1) (.int .i64 p3.1) (.int .i64 p4.1) (.int .i64 p5.1) (.bool (p6.1 == 1)) (.slice ea q.1.length ec) (.slice none 0 0)) := HX4.out.over (((Below.refl _ _).alloc (by rw [size_set]; exact hB2) _).grown g2 (Nat.le_trans (by rw [size_set]; exact hB2) (le_alloc _ _)) (fun k hk => (HGz.out.own k hk).1)); have HX10 : Hid (Mx w0 w (w9.setCell ⟨w.heap.size + 1, 9, none⟩ (.slice a9 (q.1 ++ [(q1.1, q2.1)]).length c9)) K v b q2.2 (.int .i64 p0.1) (.int .i64 p1.1) (.int .i64 f) (.int .i64 t) (.int .i64 p2.1) (.int .i64 p3.1) (.int .i64 p4.1) (.int .i64 p5.1) (.bool (p6.1 == 1)) (.slice a9 (q.1 ++ [(q1.1, q2.1)]).length c9) (.slice none 0 0)) := HX9.out.put 9 _; have HG10 : Hid (Gz (w9.setCell ⟨w.heap.size + 1, 9, none⟩ (.slice a9 (q.1 ++ [(q1.1, q2.1)]).length c9)) (w.heap.size + 2) (fun g => (g < w0.heap.size ∧ SB v g) ∨ w.heap.size + 2 ≤ g) (.slice a9 (q.1 ++ [(q1.1, q2.1)]).length c9) (q.1 ++ [(q1.1, q2.1)])) := HG9.out.kept (fun g hg _ => Below.heap_setCell _ _ _ _ (show g ≠ w.heap.size + 1 by have := hg; omega)); clear g1 g2 g3; obtain ⟨j0, j1, j2, j3, j4, j5, j6, j7, j8, j9, j10, jf⟩ := HX9.out.c)
        | (go_at_call 50; refine (HT1.out _ HX2.out.rd).mono ?_; rintro e w2 ⟨da, dc, rfl, hd, z1, z2⟩; have HD : Hid (SrcV w0 v da dc q2.1) := hd; have HX3 : Hid (Mx w0 w w2 K v b q2.2 (.int .i64 p0.1) (.int .i64 p1.1) (.int .i64 f) (.int .i64 t) (.int .i64 p2.1) (.int .i64 p3.1) (.int .i64 p4.1) (.int .i64 p5.1) (.bool (p6.1 == 1)) (.slice ea q.1.length ec) (.slice none 0 0)) := HX2.out.num z1 z2; have T3 : Hid (Cell2 w2 wr.heap.size (.int .i64 q1.1) (.slice none 0 0)) := T2.out.kept (z2.k _ T2.out.lt hne); have HK3 : Hid (∀ g, g < wr.heap.size → g ≠ K → w2.heap[g]? = wr.heap[g]?) := fun g hg hn => (z2.k g (Nat.lt_of_lt_of_le hg (Nat.le_of_lt T2.out.lt)) hn).trans (HK2.out g hg hn); obtain ⟨t0, t1, tf⟩ := T3.out; have HX4 : Hid (Mx w0 w (w2.setCell ⟨wr.heap.size, 1, none⟩ (.slice da q2.1.length dc)) K v b q2.2 (.int .i64 p0.1) (.int .i64 p1.1) (.int .i64 f) (.int .i64 t) (.int .i64 p2.1) (.int .i64 p3.1) (.int .i64 p4.1) (.int .i64 p5.1) (.bool (p6.1 == 1)) (.slice ea q.1.length ec) (.slice none 0 0)) := HX3.out.over ((Below.refl _ _).setCell (p := ⟨wr.heap.size, 1, none⟩) hB _); have T4 : Hid (Cell2 (w2.setCell ⟨wr.heap.size, 1, none⟩ (.slice da q2.1.length dc)) wr.heap.size (.int .i64 q1.1) (.slice da q2.1.length dc)) := cell2_put T3.out 1 _; clear hd z1 z2; have hsz2 : (w2.setCell ⟨wr.heap.size, 1, none⟩ (.slice da q2.1.length dc)).heap.size = w2.heap.size := size_set _ _ _; have hB2 : w.heap.size + 2 ≤ w2.heap.size := Nat.le_trans hB (Nat.le_of_lt T3.out.lt); have HGz : Hid (Gz (w2.setCell ⟨wr.heap.size, 1, none⟩ (.slice da q2.1.length dc)) (w.heap.size + 2) (fun g => (g < w0.heap.size ∧ SB v g) ∨ w.heap.size + 2 ≤ g) (.slice ea q.1.length ec) q.1) := HQ.out.g.kept (fun g hg hl => (Below.heap_setCell _ _ _ _ (show g ≠ wr.heap.size by omega)).trans (HK3.out g hl (by have := hg; omega))); have HRe : Hid (ReadsE (w2.setCell ⟨wr.heap.size, 1, none⟩ (.slice da q2.1.length dc)) (fun g => (g < w0.heap.size ∧ SB v g) ∨ g = w2.heap.size) (.int .i64 q1.1) (.slice da q2.1.length dc) (q1.1, q2.1)) := ⟨da, dc, rfl, rfl, HD.out.r.below HX4.out.rd.l, fun h0 x hx => by { have hs := HD.out.s h0 x hx; obtain ⟨b1, o1, e2, e3, _⟩ := cells_of HD.out.r (List.length_pos_iff.2 h0); rw [hx] at e2; cases e2; exact .inl ⟨e3, hs⟩ }, HIn.out⟩; have HPp : Hid (∀ g, ((g < w0.heap.size ∧ SB v g) ∨ g = w2.heap.size) → ((g < w0.heap.size ∧ SB v g) ∨ w.heap.size + 2 ≤ g) ∧ (Value.slice ea q.1.length ec).ownBlock ≠ some g) := fun g hg => ⟨hg.imp id (fun h => by omega), fun e => by { have := HGz.out.own g e; omega }⟩; obtain ⟨d0, d1, d2, d3, d4, d5, d6, d7, d8, d9, d10, df⟩ := HX4.out.c; obtain ⟨y0, y1, yf⟩ := T4.out)
        | (go_at_call 35; refine (HE1.out _ HX.out.rd).mono ?_; rintro e w1 ⟨rfl, z1, z2⟩; have HX1 : Hid (Mx w0 w w1 K v b q1.2 (.int .i64 p0.1) (.int .i64 p1.1) (.int .i64 f) (.int .i64 t) (.int .i64 p2.1) (.int .i64 p3.1) (.int .i64 p4.1) (.int .i64 p5.1) (.bool (p6.1 == 1)) (.slice ea q.1.length ec) (.slice none 0 0)) := HX.out.num z1 z2; have T1 : Hid (Cell2 w1 wr.heap.size (.int .i64 0) (.slice none 0 0)) := HC2.out.kept (z2.k _ HC2.out.lt hne); have HK1 : Hid (∀ g, g < wr.heap.size → g ≠ K → w1.heap[g]? = wr.heap[g]?) := fun g hg hn => (z2.k g (Nat.lt_of_lt_of_le hg (Nat.le_of_lt HC2.out.lt)) hn).trans (Below.heap_alloc _ _ _ hg); obtain ⟨t0, t1, tf⟩ := T1.out; have HX2 : Hid (Mx w0 w (w1.setCell ⟨wr.heap.size, 0, none⟩ (.int .i64 q1.1)) K v b q1.2 (.int .i64 p0.1) (.int .i64 p1.1) (.int .i64 f) (.int .i64 t) (.int .i64 p2.1) (.int .i64 p3.1) (.int .i64 p4.1) (.int .i64 p5.1) (.bool (p6.1 == 1)) (.slice ea q.1.length ec) (.slice none 0 0)) := HX1.out.over ((Below.refl _ _).setCell (p := ⟨wr.heap.size, 0, none⟩) hB _); have T2 : Hid (Cell2 (w1.setCell ⟨wr.heap.size, 0, none⟩ (.int .i64 q1.1)) wr.heap.size (.int .i64 q1.1) (.slice none 0 0)) := cell2_put T1.out 0 _; have HK2 : Hid (∀ g, g < wr.heap.size → g ≠ K → (w1.setCell ⟨wr.heap.size, 0, none⟩ (.int .i64 q1.1)).heap[g]? = wr.heap[g]?) := fun g hg hn => (Below.heap_setCell _ _ _ _ (show g ≠ wr.heap.size by omega)).trans (HK1.out g hg hn); clear z1 z2))
      go_roundw
      case rel => exact ⟨i + 1, by omega, by go_num, a9, c9, by
        rw [HNx2.out]
        have hl : (q.1 ++ [(q1.1, q2.1)]).length = q.1.length + 1 := by simp
        have h1 := HX10.out
        have h2 := HG10.out
        rw [hl] at h1 h2
        refine ⟨?_, ?_⟩
        · show Mx w0 w _ K v b q2.2 (.int .i64 p0.1) (.int .i64 p1.1) (.int .i64 f) (.int .i64 t) (.int .i64 p2.1) (.int .i64 p3.1) (.int .i64 p4.1) (.int .i64 p5.1) (.bool (p6.1 == 1)) (.slice a9 (q.1 ++ [(q1.1, q2.1)]).length c9) (.slice none 0 0)
          rw [hl]
          exact h1
        · show Gz _ _ _ (.slice a9 (q.1 ++ [(q1.1, q2.1)]).length c9) _
          rw [hl]
          exact h2⟩
      case measure => simp [intOf]; omega
    · have hS : Hid (entsS n p7.2 = entsS i p7.2) := by
        show _ = _
        by_cases hlt2 : i < n
        · have := ents_stop (s := p7.2) (i := i) (fun e => hgo ⟨hlt2, e⟩) (n - i)
          rw [show i + (n - i) = n by omega] at this
          exact this
        · rw [show n = i by omega]
      have hc : Hid (i < n → ¬ (entsS i p7.2).2.2 = 0) := fun q e => hgo ⟨q, e⟩
      have HF2 := HFin.out
      clear HFin hgo
      generalize entsS i p7.2 = q at *
      obtain ⟨q2, hq2⟩ : ∃ p, txtS q.2 = p := ⟨_, rfl⟩
      have hT1 := HTx.out
      have HT1 : Hid (∀ wx, Rdg w0 wx K v b q.2 → Calls Try.prog 50 #[.pointer (some ⟨K, 0, none⟩)] wx (TxP w0 wx K v b q2.1 q2.2)) := fun wx z => by have := hT1 wx q.2 z; rw [hq2] at this; exact this
      have HF3 : Hid (∀ (w' : World) (e : Ending) (da : Option Addr) (dc : Nat), e = .returned (.agg #[.int .i64 p0.1, .int .i64 p1.1, .int .i64 f, .int .i64 t, .int .i64 p2.1, .int .i64 p3.1, .int .i64 p4.1, .int .i64 p5.1, .bool (p6.1 == 1), .slice ea q.1.length ec, .slice da q2.1.length dc]) → EnsV w' (fun g => (g < w0.heap.size ∧ SB v g) ∨ w.heap.size ≤ g) ea ec q.1 → SrcV w0 v da dc q2.1 → Rdg w0 w' K v b q2.2 → Kx K w w' → ∃ ax, e = .returned (msA ax (msgS f t s).1) ∧ MsV w' (fun g => (g < w0.heap.size ∧ SB v g) ∨ w.heap.size ≤ g) ax (msgS f t s).1 ∧ Rdg w0 w' K v b (msgS f t s).2 ∧ Kx K w w') := fun w' e da dc y1 y2 y3 y4 y5 => HF2 w' e ea da ec dc q.1 q.2 q2.2 q2.1 (by rw [hS.out]) (by rw [hq2]) y1 y2 y3 y4 y5
      clear HF2 hS hT1 hq2
      have hne : wr.heap.size ≠ K := by omega
      have hend : (i < n → ¬ q.2.2 = 0) := hc.out
      clear hc
      have y1 : i < n ∨ ¬ i < n := by omega
      rcases y1 with y1 | y1
      all_goals (
        try (have y2 : (q.2.2 == 0) = false := beq_eq_false_iff_ne.2 (hend y1))
        clear hend
        go_wp2_with (go_at_call 50; refine (HT1.out _ HQ.out.m.rd).mono ?_; rintro e w2 ⟨da, dc, rfl, hd, z1, z2⟩; have HD : Hid (SrcV w0 v da dc q2.1) := hd; have HX3 : Hid (Mx w0 w w2 K v b q2.2 (.int .i64 p0.1) (.int .i64 p1.1) (.int .i64 f) (.int .i64 t) (.int .i64 p2.1) (.int .i64 p3.1) (.int .i64 p4.1) (.int .i64 p5.1) (.bool (p6.1 == 1)) (.slice ea q.1.length ec) (.slice none 0 0)) := HQ.out.m.num z1 z2; have HG3 : Hid (Gz w2 (w.heap.size + 2) (fun g => (g < w0.heap.size ∧ SB v g) ∨ w.heap.size + 2 ≤ g) (.slice ea q.1.length ec) q.1) := HQ.out.g.kept (fun g hg hl => z2.k g hl (by have := hg; have := HQ.out.m.lt; omega)); clear hd z1 z2; obtain ⟨d0, d1, d2, d3, d4, d5, d6, d7, d8, d9, d10, df⟩ := HX3.out.c; obtain ⟨e0, e1, e2, e3, e4, e5, e6, e7, e8, e9, e10, ef⟩ := HX3.out.z)
        have HA : Hid (Mx w0 w (w2.setCell ⟨w.heap.size + 1, 10, none⟩ (.slice da q2.1.length dc)) K v b q2.2 (.int .i64 p0.1) (.int .i64 p1.1) (.int .i64 f) (.int .i64 t) (.int .i64 p2.1) (.int .i64 p3.1) (.int .i64 p4.1) (.int .i64 p5.1) (.bool (p6.1 == 1)) (.slice ea q.1.length ec) (.slice da q2.1.length dc)) := HX3.out.put 10 _
        have hlt2 := HX3.out.lt
        have hz2 := HX3.out.rd.z
        have HC := HA.out.z.boxed (.int .i64 p0.1) (.int .i64 p1.1) (.int .i64 f) (.int .i64 t) (.int .i64 p2.1) (.int .i64 p3.1) (.int .i64 p4.1) (.int .i64 p5.1) (.bool (p6.1 == 1)) (.slice ea q.1.length ec) (.slice da q2.1.length dc)
        have HBl : Below w.heap.size (w2.setCell ⟨w.heap.size + 1, 10, none⟩ (.slice da q2.1.length dc)) _ := Cl11.under (b := w.heap.size) (Below.refl _ _) (Nat.le_refl _) (v0 := .int .i64 p0.1) (v1 := .int .i64 p1.1) (v2 := .int .i64 f) (v3 := .int .i64 t) (v4 := .int .i64 p2.1) (v5 := .int .i64 p3.1) (v6 := .int .i64 p4.1) (v7 := .int .i64 p5.1) (v8 := .bool (p6.1 == 1)) (v9 := .slice ea q.1.length ec) (v10 := .slice da q2.1.length dc)
        have HRd := HA.out.rd.kept (HBl.mono (by omega)) (HBl.block K hlt2)
        have HKx : Kx K w _ := ⟨HA.out.kx.b.trans (HBl.mono (by omega)), fun g hg hn => (HBl.block g hg).trans (HA.out.kx.k g hg hn)⟩
        have HEn := HG3.out.reads.2.kept (fun g hg _ => ⟨((Cl11.other (b := w.heap.size) (v0 := .int .i64 p0.1) (v1 := .int .i64 p1.1) (v2 := .int .i64 f) (v3 := .int .i64 t) (v4 := .int .i64 p2.1) (v5 := .int .i64 p3.1) (v6 := .int .i64 p4.1) (v7 := .int .i64 p5.1) (v8 := .bool (p6.1 == 1)) (v9 := .slice ea q.1.length ec) (v10 := .slice da q2.1.length dc) (show g ≠ w.heap.size by rcases hg with hg | hg <;> omega)).trans (Below.heap_setCell w2 ⟨w.heap.size + 1, 10, none⟩ (.slice da q2.1.length dc) g (show g ≠ w.heap.size + 1 by rcases hg with hg | hg <;> omega))), (show (g < w0.heap.size ∧ SB v g) ∨ w.heap.size ≤ g from hg.elim (fun h => h.imp id (fun h => by omega)) (fun h => .inr (by omega)))⟩) (w' := _) (Q := fun g => (g < w0.heap.size ∧ SB v g) ∨ w.heap.size ≤ g)
        exact bodyPost_ret (resMsgR _ HC rfl) rfl (HF3.out _ _ da dc rfl HEn HD.out HRd HKx))
end Go.Proofs.Ytcaddedkodjgcaa
