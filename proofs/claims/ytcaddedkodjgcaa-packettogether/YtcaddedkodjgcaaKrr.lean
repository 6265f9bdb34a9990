/-
  The document's Read of packets: its contract.
-/
import Derived.Test.YtcaddedkodjgcaaKrm
namespace Go.Proofs.Ytcaddedkodjgcaa
open Go.RowKit Pack
set_option linter.unusedVariables false
set_option linter.unusedSimpArgs false

theorem reads_take {w : World} {a : Option Addr} {n c m : Nat} {l : BB} (h : ReadsV w (.slice a n c) l) (hm : m ≤ n) : ReadsV w (.slice a m c) (l.take m) := by
  obtain ⟨a', c', hv, hn, h1, h2, h3, h4⟩ := h
  simp only [Value.slice.injEq] at hv
  obtain ⟨rfl, rfl, rfl⟩ := hv
  have hlen : (l.take m).length = m := by rw [List.length_take]; omega
  refine ⟨a, c, by rw [hlen], hn, by omega, h2, by omega, ?_⟩
  by_cases h0 : m = 0
  · left; subst h0; simp
  · rcases h4 with h4 | ⟨b, off, e, hc⟩
    · exfalso; rw [h4] at hm; simp at hm; omega
    · right
      refine ⟨b, off, e, fun i hi => ?_⟩
      rw [hlen] at hi
      rw [hc i (by omega)]
      unfold nth
      rw [List.getD_eq_getElem?_getD, List.getD_eq_getElem?_getD, List.getElem?_take, if_pos hi]
/-- A packet that is read, in block K + 1; its answer's place; the reader, in block K. -/
structure Px (w wr : World) (K : Nat) (v : Value) (b : BB) (s : St) (u0 u1 u2 : Value) : Prop where
  rd : Rdg w wr K v b s
  lt : w.heap.size < K
  z : Cell3 wr w.heap.size (.int .i64 0) (.int .i64 0) (.slice none 0 0)
  c : Cell3 wr (K + 1) u0 u1 u2
section
variable {w wr w' : World} {K : Nat} {v : Value} {b : BB} {s s' : St} {u0 u1 u2 : Value}
theorem Px.num (h : Px w wr K v b s u0 u1 u2) (hr : Rdg w w' K v b s') (hx : Kx K wr w') : Px w w' K v b s' u0 u1 u2 := by
  have h1 := h.lt
  exact ⟨hr, h.lt, h.z.kept (hx.k _ h.z.lt (by omega)), h.c.kept (hx.k _ h.c.lt (by omega))⟩
theorem Px.below (h : Px w wr K v b s u0 u1 u2) (hb : Below wr.heap.size wr w') : Px w w' K v b s u0 u1 u2 := h.num (h.rd.below hb) (Kx.below hb (Nat.le_of_lt h.rd.lt))
theorem Px.over (h : Px w wr K v b s u0 u1 u2) (hb : Below (K + 2) wr w') : Px w w' K v b s u0 u1 u2 := by
  have h1 := h.lt
  exact ⟨h.rd.kept (hb.mono (by omega)) (hb.block _ (by omega)), h.lt, h.z.kept (hb.block _ (by omega)), h.c.kept (hb.block _ (by omega))⟩
theorem Px.put (h : Px w wr K v b s u0 u1 u2) (j : Nat) (x : Value) : Px w (wr.setCell ⟨K + 1, j, none⟩ x) K v b s (if j = 0 then x else u0) (if j = 1 then x else u1) (if j = 2 then x else u2) := by
  have h1 := h.lt
  have hb : Below (K + 1) wr (wr.setCell ⟨K + 1, j, none⟩ x) := (Below.refl _ _).setCell (p := ⟨K + 1, j, none⟩) (Nat.le_refl _) _
  exact ⟨h.rd.kept (hb.mono (by omega)) (hb.block _ (by omega)), h.lt, h.z.kept (hb.block _ (by omega)), h.c.put j x⟩
end
theorem Px.first {w w1 : World} {a : Option Addr} {m c : Nat} {bt : BB} (hr : ReadsV w (.slice a m c) bt) (hl : bt.length = m) (hz : Cell3 w1 w.heap.size (.int .i64 0) (.int .i64 0) (.slice none 0 0)) (hb : Below w.heap.size w w1) : Px w ((w1.alloc (Obj.cells #[.slice a m c, .int .i64 0, .int .i64 0] 63)).alloc (Obj.cells #[.int .i64 0, .int .i64 0, .slice none 0 0] 24)) w1.heap.size (.slice a m c) bt (bt, 0) (.int .i64 0) (.int .i64 0) (.slice none 0 0) := by
  have h2 : Below w1.heap.size w1 ((w1.alloc (Obj.cells #[.slice a m c, .int .i64 0, .int .i64 0] 63)).alloc (Obj.cells #[.int .i64 0, .int .i64 0, .slice none 0 0] 24)) := ((Below.refl _ _).alloc (Nat.le_refl _) _).alloc (le_alloc _ _) _
  have hlt := hz.lt
  refine ⟨⟨hr, hb.trans (h2.mono hb.size), Nat.le_of_lt hlt, 0, Nat.zero_le _, rfl, ?_⟩, hlt, hz.kept (h2.block _ hlt), ?_⟩
  · exact (Cell3.new w1 _ _ _ _).kept (Below.heap_alloc _ _ _ (by rw [size_alloc]; omega))
  · have := Cell3.new (w1.alloc (Obj.cells #[.slice a m c, .int .i64 0, .int .i64 0] 63)) (.int .i64 0) (.int .i64 0) (.slice none 0 0) 24
    rw [size_alloc] at this
    exact this
theorem mss_next {f t : Int} {s : St} {i : Nat} (h : (mssS f t i s).2.2 = 0) : mssS f t (i + 1) s = ((mssS f t i s).1 ++ [(msgS f t (mssS f t i s).2).1], (msgS f t (mssS f t i s).2).2) := by rw [mssS, if_pos h]
theorem mss_stop {f t : Int} {s : St} {i : Nat} (h : ¬ (mssS f t i s).2.2 = 0) : ∀ n, mssS f t (i + n) s = mssS f t i s
  | 0 => rfl
  | n + 1 => by
    have := mss_stop h n
    rw [← Nat.add_assoc, mssS, this, if_neg h]
theorem mss_len2 (f t : Int) (s : St) : ∀ n, (mssS f t n s).1.length ≤ n
  | 0 => Nat.le_refl _
  | n + 1 => by
    have := mss_len2 f t s n
    rw [mssS]
    split
    · rw [List.length_append]; simp; omega
    · omega
/-- What Read's loop keeps. -/
structure Ql (w wr : World) (K : Nat) (v : Value) (b : BB) (s : St) (ms : List Ms) (u0 u1 : Value) (ma : Option Addr) (mc : Nat) : Prop where
  p : Px w wr K v b s u0 u1 (.slice ma ms.length mc)
  g : Gr msR 51 wr (K + 2) (fun g => (g < w.heap.size ∧ SB v g) ∨ K + 2 ≤ g) (.slice ma ms.length mc) ms
/-- What Read answers. -/
def ReadP (p : Pk × Int) (v : Value) (w : World) (e : Ending) (w' : World) : Prop := ∃ a c, e = .returned (.tuple #[.agg #[.int .i64 p.1.1, .int .i64 p.1.2.1, .slice a p.1.2.2.length c], .int .i64 p.2]) ∧ RwV msR w' (fun g => (g < w.heap.size ∧ SB v g) ∨ w.heap.size ≤ g) a c p.1.2.2 ∧ Below w.heap.size w w'
theorem zero_box (w : World) : Cell3 (w.alloc (Obj.cells #[.int .i64 0, .int .i64 0, .slice none 0 0] 24)) w.heap.size (.int .i64 0) (.int .i64 0) (.slice none 0 0) ∧ Below w.heap.size w (w.alloc (Obj.cells #[.int .i64 0, .int .i64 0, .slice none 0 0] 24)) := ⟨Cell3.new w _ _ _ _, (Below.refl _ _).alloc (Nat.le_refl _) _⟩
theorem zero_again {w w1 : World} {Q : Nat} {u0 u1 u2 : Value} (h : Cell3 w1 Q u0 u1 u2) (hb : Below Q w w1) : Cell3 (((w1.setCell ⟨Q, 0, none⟩ (.int .i64 0)).setCell ⟨Q, 1, none⟩ (.int .i64 0)).setCell ⟨Q, 2, none⟩ (.slice none 0 0)) Q (.int .i64 0) (.int .i64 0) (.slice none 0 0) ∧ Below Q w (((w1.setCell ⟨Q, 0, none⟩ (.int .i64 0)).setCell ⟨Q, 1, none⟩ (.int .i64 0)).setCell ⟨Q, 2, none⟩ (.slice none 0 0)) :=
  ⟨((h.put 0 _).put 1 _).put 2 _, three_below hb (Nat.le_refl _)⟩
theorem box_put {w w1 : World} {Q : Nat} {u0 u1 u2 : Value} (h : Cell3 w1 Q u0 u1 u2) (hb : Below Q w w1) (v0 v1 v2 : Value) : Cell3 (((w1.setCell ⟨Q, 0, none⟩ v0).setCell ⟨Q, 1, none⟩ v1).setCell ⟨Q, 2, none⟩ v2) Q v0 v1 v2 ∧ Below Q w (((w1.setCell ⟨Q, 0, none⟩ v0).setCell ⟨Q, 1, none⟩ v1).setCell ⟨Q, 2, none⟩ v2) :=
  ⟨((h.put 0 _).put 1 _).put 2 _, three_below hb (Nat.le_refl _)⟩
theorem loadPk {w : World} {Q : Nat} {v0 v1 v2 : Value} (h : Cell3 w Q v0 v1 v2) : (loadVar 24 ⟨Q, 0, none⟩).run Try.prog w = .ok (.agg #[v0, v1, v2]) w := by
  have hl : (loadCells ⟨Q, 0, none⟩ 3).run Try.prog w = .ok #[v0, v1, v2] w := by
    refine run_loadCells_list (P := Try.prog) w ⟨Q, 0, none⟩ [v0, v1, v2] fun j v hj => ?_
    rw [add_plain, Nat.zero_add]
    have hlt : j < 3 := (List.getElem?_eq_some_iff.1 hj).1
    have : j = 0 ∨ j = 1 ∨ j = 2 := by omega
    rcases this with rfl | rfl | rfl <;> (rw [← hj])
    · exact h.c0
    · exact h.c1
    · exact h.c2
  simp only [loadVar, Sem.run_bind, Sem.run_pure, Try.isAgg24, Try.sizeOf24, Result.andThen_ok, hl, if_true]
theorem resRead {w : World} {Q : Nat} {v0 v1 v2 : Value} (tmps : Array Value) (h : Cell3 w Q v0 v1 v2) (h4 : tmps.getD 2 undef = .pointer (some ⟨Q, 0, none⟩)) : (results Try.f17 tmps).run Try.prog w = .ok (.tuple #[.agg #[v0, v1, v2], tmps.getD 3 undef]) w := by
  have h4' : tmps[2]?.getD undef = .pointer (some ⟨Q, 0, none⟩) := by simpa using h4
  simp [results, Try.results17, h4', loadPk h, asAddr]
set_option maxRecDepth 100000 in
set_option maxHeartbeats 2000000 in
theorem RRead_short {w : World} {v : Value} {b : BB} (h : ReadsV w v b) (hb : b.length < 4) : Calls Try.prog 17 #[v] w (ReadP (readM b) v w) := by
  have e0 : readM b = (zPk, 5) := by unfold readM; rw [if_pos hb]
  rw [e0]
  obtain ⟨a, c, rfl, _, hc, _⟩ := h
  have HZ := zero_box w
  have HF : Hid (ReadP (zPk, 5) (.slice a b.length c) w (.returned (.tuple #[.agg #[.int .i64 0, .int .i64 0, .slice none 0 0], .int .i64 5])) (w.alloc (Obj.cells #[.int .i64 0, .int .i64 0, .slice none 0 0] 24))) := ⟨none, 0, rfl, RwV.nil _ _ _, HZ.2⟩
  have HC : Hid (Cell3 (w.alloc (Obj.cells #[.int .i64 0, .int .i64 0, .slice none 0 0] 24)) w.heap.size (.int .i64 0) (.int .i64 0) (.slice none 0 0)) := HZ.1
  clear HZ e0
  generalize b.length = n at *
  go_enter Try.func17, Try.ntmps17
  go_wp2
  exact bodyPost_ret (resRead _ HC.out rfl) rfl HF.out
set_option maxRecDepth 100000 in
set_option maxHeartbeats 2000000 in
theorem RRead_sum {w : World} {v : Value} {b : BB} (h : ReadsV w v b) (hb : ¬ b.length < 4) (hs : ¬ sealB (b.take (b.length - 4)) = b) (hl : b.length ≤ 1000000) : Calls Try.prog 17 #[v] w (ReadP (readM b) v w) := by
  have e0 : readM b = (zPk, 4) := by unfold readM; rw [if_neg hb, if_neg hs]
  rw [e0]
  obtain ⟨a, c, rfl, hrest⟩ := h
  have hcap := hrest.2.1
  have hcap2 : c ≤ 9223372036854775807 := hrest.2.2.1
  have HR : Hid (ReadsV w (.slice a b.length c) b) := ⟨a, c, rfl, hrest⟩
  have HS : Hid (∀ wr, Below w.heap.size w wr → Calls Try.prog 19 #[.slice a (b.length - 4) c] wr fun e w' => ∃ v', e = .returned v' ∧ Owns w' wr.heap.size v' (sealB (b.take (b.length - 4))) ∧ Below wr.heap.size wr w') := fun wr q => RSeal_any _ _ _ ((reads_take HR.out (Nat.sub_le _ _)).below q) (by rw [List.length_take]; omega)
  have hd := str_same (sealB (b.take (b.length - 4))) b
  rw [decide_eq_false hs] at hd
  have HCv : Hid (∀ wr, Below w.heap.size w wr → (convert 27 9 (.slice a b.length c)).run Try.prog wr = .ok (.string (str b)) wr) := fun wr q => convert_str (HR.out.below q)
  have HCs : Hid (∀ wr v', ReadsV wr v' (sealB (b.take (b.length - 4))) → (convert 27 9 v').run Try.prog wr = .ok (.string (str (sealB (b.take (b.length - 4))))) wr) := fun wr v' q => by obtain ⟨a', c', e, _⟩ := id q; subst e; exact convert_str q
  have HZ := zero_box w
  have HB0 : Hid (Below w.heap.size w (w.alloc (Obj.cells #[.int .i64 0, .int .i64 0, .slice none 0 0] 24))) := HZ.2
  have hsz : (w.alloc (Obj.cells #[.int .i64 0, .int .i64 0, .slice none 0 0] 24)).heap.size = w.heap.size + 1 := size_alloc _ _
  have k0 := HCv.out _ (HB0.out.trans (((Below.refl _ _).drew).mono HB0.out.size))
  have HF : Hid (∀ w', Below (w.heap.size + 1) (w.alloc (Obj.cells #[.int .i64 0, .int .i64 0, .slice none 0 0] 24)) w' → Cell3 w' w.heap.size (.int .i64 0) (.int .i64 0) (.slice none 0 0) ∧ ReadP (zPk, 4) (.slice a b.length c) w (.returned (.tuple #[.agg #[.int .i64 0, .int .i64 0, .slice none 0 0], .int .i64 4])) w') := fun w' q => ⟨HZ.1.kept (q.block _ (Nat.lt_succ_self _)), none, 0, rfl, RwV.nil _ _ _, HZ.2.trans (q.mono (Nat.le_succ _))⟩
  have hn4 : 4 ≤ b.length := by omega
  obtain ⟨m, hm⟩ : ∃ m, b.length - 4 = m := ⟨_, rfl⟩
  have hw : IntKind.i64.wrap ((b.length : Int) - 4) = (m : Int) := by rw [IntKind.wrap_i64]; omega
  have hm0 : (0 : Int) ≤ (m : Int) := by omega
  have hm1 : (m : Int) ≤ (b.length : Int) := by omega
  have hm2 : (m : Int) ≤ (c : Int) := by omega
  have hm3 : m ≤ c := by omega
  rw [hm] at HS HCs
  rw [hm] at hd
  generalize str (sealB (b.take m)) = s1 at *
  generalize str b = s2 at *
  generalize sealB (b.take m) = sb at *
  clear hrest hs HZ e0
  generalize hn : b.length = n at *
  go_enter Try.func17, Try.ntmps17
  go_wp2
  refine wp_region_held_drew (S := (fun w' => (convert 27 9 (.slice a n c)).run Try.prog w' = .ok (.string s2) w')) (by kernel_rfl) (by (try dsimp only); go_keep) (fun hHeld => ?_)
  refine wpAnyH_take (i := 0) (oi := { dst := some 14, op := Op.move (Operand.tmp 0), type := 27, pos := "ref.go:151", after := #[], guard := none }) (v := (.slice a n c)) rfl (by kernel_rfl) (by kernel_rfl) (by kernel_rfl) (fun _ _ _ h => h) (Or.inl ⟨by rfl, ?_⟩) hHeld ?_
  · intro w hSw; (try dsimp only at hSw); go_simp
  try simp only [Act.put, List.setIfInBounds_toArray, List.set_cons_zero, List.set_cons_succ]
  refine wpAnyH_take (i := 1) (oi := { dst := some 15, op := Op.move (Operand.tmp 0), type := 27, pos := "ref.go:151", after := #[], guard := none }) (v := (.slice a n c)) rfl (by kernel_rfl) (by kernel_rfl) (by kernel_rfl) (fun _ _ _ h => h) (Or.inl ⟨by rfl, ?_⟩) hHeld ?_
  · intro w hSw; (try dsimp only at hSw); go_simp
  try simp only [Act.put, List.setIfInBounds_toArray, List.set_cons_zero, List.set_cons_succ]
  refine wpAnyH_take (i := 2) (oi := { dst := some 16, op := Op.call { callee := Callee.builtin Builtin.len, args := #[Operand.tmp 15], argTypes := #[27] }, type := 3, pos := "ref.go:151", after := #[{ on := 1, ground := Ground.data }], guard := none }) (v := (.int .i64 n)) rfl (by kernel_rfl) (by kernel_rfl) (by kernel_rfl) (fun _ _ _ h => h) (Or.inl ⟨by rfl, ?_⟩) hHeld ?_
  · intro w hSw; (try dsimp only at hSw); go_simp
  try simp only [Act.put, List.setIfInBounds_toArray, List.set_cons_zero, List.set_cons_succ]
  refine wpAnyH_take (i := 3) (oi := { dst := some 17, op := Op.binOp BinOp.sub 3 (Operand.tmp 16) (Operand.const (Value.int IntKind.i64 4)) 3, type := 3, pos := "ref.go:151", after := #[{ on := 2, ground := Ground.data }], guard := none }) (v := (.int .i64 m)) rfl (by kernel_rfl) (by kernel_rfl) (by kernel_rfl) (fun _ _ _ h => h) (Or.inl ⟨by rfl, ?_⟩) hHeld ?_
  · intro w hSw; (try dsimp only at hSw); go_simp
  try simp only [Act.put, List.setIfInBounds_toArray, List.set_cons_zero, List.set_cons_succ]
  refine wpAnyH_take (i := 4) (oi := { dst := some 18, op := Op.slice 27 (Operand.tmp 14) none (some (Operand.tmp 17)) none, type := 27, pos := "ref.go:151", after := #[{ on := 0, ground := Ground.data }, { on := 3, ground := Ground.data }], guard := none }) (v := (.slice a m c)) rfl (by kernel_rfl) (by kernel_rfl) (by kernel_rfl) (fun _ _ _ h => h) (Or.inl ⟨by rfl, ?_⟩) hHeld ?_
  · intro w hSw; (try dsimp only at hSw); go_simp
  try simp only [Act.put, List.setIfInBounds_toArray, List.set_cons_zero, List.set_cons_succ]
  refine wpAnyH_take (i := 7) (oi := { dst := some 21, op := Op.move (Operand.tmp 0), type := 27, pos := "ref.go:151", after := #[], guard := none }) (v := (.slice a n c)) rfl (by kernel_rfl) (by kernel_rfl) (by kernel_rfl) (fun _ _ _ h => h) (Or.inl ⟨by rfl, ?_⟩) hHeld ?_
  · intro w hSw; (try dsimp only at hSw); go_simp
  try simp only [Act.put, List.setIfInBounds_toArray, List.set_cons_zero, List.set_cons_succ]
  refine wpAnyH_take (i := 8) (oi := { dst := some 22, op := Op.convert 27 9 (Operand.tmp 21), type := 9, pos := "ref.go:151", after := #[{ on := 7, ground := Ground.data }], guard := none }) (v := (.string s2)) rfl (by kernel_rfl) (by kernel_rfl) (by kernel_rfl) (fun _ _ _ h => h) (Or.inl ⟨by rfl, ?_⟩) hHeld ?_
  · intro w hSw; (try dsimp only at hSw); go_simp
  try simp only [Act.put, List.setIfInBounds_toArray, List.set_cons_zero, List.set_cons_succ]
  refine wpAnyH_ready (rs := [5]) (by kernel_rfl) (by simp) ?_
  refine AllReadyH.cons (o := { dst := some 19, op := Op.call { callee := Callee.value (Operand.func 19), args := #[Operand.tmp 18], argTypes := #[27] }, type := 27, pos := "ref.go:151", after := #[{ on := 4, ground := Ground.data }], guard := none }) rfl (fun K hK => ?_) AllReadyH.nil
  go_simp
  refine (HS.out _ (HB0.out.trans (((Below.refl _ _).drew).mono HB0.out.size))).mono ?_
  rintro e w1 ⟨v1, rfl, ho, qB⟩
  have HB1 : Hid (Below (w.heap.size + 1) (w.alloc (Obj.cells #[.int .i64 0, .int .i64 0, .slice none 0 0] 24)) w1) := (Below.refl _ _).drew.trans (qB.mono (Nat.le_of_eq hsz.symm))
  have k1 := HCv.out w1 (HB0.out.trans (HB1.out.mono (Nat.le_succ _)))
  have hro := ReadsV.of_own ho
  obtain ⟨a1, c1, e1, _⟩ := id hro
  subst e1
  have k2 := HCs.out w1 _ hro
  obtain ⟨z0, z1, z2, zf⟩ := (HF.out w1 HB1.out).1
  clear ho qB hro
  refine hK.out _ _ k1 (fun hHeld2 => ?_)
  clear hK K hHeld
  have hHeld := hHeld2
  clear hHeld2
  try simp only [Act.put, List.setIfInBounds_toArray, List.set_cons_zero, List.set_cons_succ]
  refine wpAnyH_ready (rs := [6]) (by kernel_rfl) (by simp) ?_
  refine AllReadyH.cons (o := { dst := some 20, op := Op.convert 27 9 (Operand.tmp 19), type := 9, pos := "ref.go:151", after := #[{ on := 5, ground := Ground.data }], guard := none }) rfl (fun K hK => ?_) AllReadyH.nil
  go_simp
  refine hK.out _ _ k1 (fun hHeld2 => ?_)
  clear hK K hHeld
  have hHeld := hHeld2
  clear hHeld2
  try simp only [Act.put, List.setIfInBounds_toArray, List.set_cons_zero, List.set_cons_succ]
  refine wpAnyH_take (i := 9) (oi := { dst := some 23, op := Op.binOp BinOp.neq 9 (Operand.tmp 20) (Operand.tmp 22) 9, type := 4, pos := "ref.go:151", after := #[{ on := 6, ground := Ground.data }, { on := 8, ground := Ground.data }], guard := none }) (v := (.bool true)) rfl (by kernel_rfl) (by kernel_rfl) (by kernel_rfl) (fun _ _ _ h => h) (Or.inl ⟨by rfl, ?_⟩) hHeld ?_
  · intro w hSw; (try dsimp only at hSw); go_simp
  try simp only [Act.put, List.setIfInBounds_toArray, List.set_cons_zero, List.set_cons_succ]
  refine wpAnyH_done (by kernel_rfl) ?_ _
  rotate_left 1
  go_wp2
  have HX := zero_again (HF.out _ HB1.out).1 (HB0.out.trans (HB1.out.mono (Nat.le_succ _)))
  first
    | exact bodyPost_ret (resRead _ HX.1 rfl) rfl ⟨none, 0, rfl, RwV.nil _ _ _, HX.2⟩
    | exact bodyPost_ret (resRead _ (HX.1.kept rfl) rfl) rfl ⟨none, 0, rfl, RwV.nil _ _ _, HX.2.drew⟩
set_option maxRecDepth 100000 in
set_option maxHeartbeats 4000000 in
theorem RRead_go {w : World} {v : Value} {b : BB} (h : ReadsV w v b) (hb : ¬ b.length < 4) (hs : sealB (b.take (b.length - 4)) = b) (hl : b.length ≤ 1000000) : Calls Try.prog 17 #[v] w (ReadP (readM b) v w) := by
  obtain ⟨a, c, rfl, hrest⟩ := h
  have hcap := hrest.2.1
  have hcap2 : c ≤ 9223372036854775807 := hrest.2.2.1
  have HR : Hid (ReadsV w (.slice a b.length c) b) := ⟨a, c, rfl, hrest⟩
  have HS : Hid (∀ wr, Below w.heap.size w wr → Calls Try.prog 19 #[.slice a (b.length - 4) c] wr fun e w' => ∃ v', e = .returned v' ∧ Owns w' wr.heap.size v' (sealB (b.take (b.length - 4))) ∧ Below wr.heap.size wr w') := fun wr q => RSeal_any _ _ _ ((reads_take HR.out (Nat.sub_le _ _)).below q) (by rw [List.length_take]; omega)
  have hd := str_same (sealB (b.take (b.length - 4))) b
  rw [decide_eq_true hs] at hd
  have HCv : Hid (∀ wr, Below w.heap.size w wr → (convert 27 9 (.slice a b.length c)).run Try.prog wr = .ok (.string (str b)) wr) := fun wr q => convert_str (HR.out.below q)
  have HCs : Hid (∀ wr v', ReadsV wr v' (sealB (b.take (b.length - 4))) → (convert 27 9 v').run Try.prog wr = .ok (.string (str (sealB (b.take (b.length - 4))))) wr) := fun wr v' q => by obtain ⟨a', c', e, _⟩ := id q; subst e; exact convert_str q
  have HZ := zero_box w
  have HB0 : Hid (Below w.heap.size w (w.alloc (Obj.cells #[.int .i64 0, .int .i64 0, .slice none 0 0] 24))) := HZ.2
  have hsz : (w.alloc (Obj.cells #[.int .i64 0, .int .i64 0, .slice none 0 0] 24)).heap.size = w.heap.size + 1 := size_alloc _ _
  have k0 := HCv.out _ (HB0.out.trans (((Below.refl _ _).drew).mono HB0.out.size))
  have HF : Hid (∀ w', Below (w.heap.size + 1) (w.alloc (Obj.cells #[.int .i64 0, .int .i64 0, .slice none 0 0] 24)) w' → Cell3 w' w.heap.size (.int .i64 0) (.int .i64 0) (.slice none 0 0) ∧ True) := fun w' q => ⟨HZ.1.kept (q.block _ (Nat.lt_succ_self _)), trivial⟩
  have hn4 : 4 ≤ b.length := by omega
  obtain ⟨m, hm⟩ : ∃ m, b.length - 4 = m := ⟨_, rfl⟩
  have hw : IntKind.i64.wrap ((b.length : Int) - 4) = (m : Int) := by rw [IntKind.wrap_i64]; omega
  have hm0 : (0 : Int) ≤ (m : Int) := by omega
  have hm1 : (m : Int) ≤ (b.length : Int) := by omega
  have hm2 : (m : Int) ≤ (c : Int) := by omega
  have hm3 : m ≤ c := by omega
  have hm3n : m ≤ b.length := by omega
  obtain ⟨p0, hp0⟩ : ∃ p, numS 7 (b.take m, (0 : Int)) = p := ⟨_, rfl⟩
  obtain ⟨p1, hp1⟩ : ∃ p, numS 7 p0.2 = p := ⟨_, rfl⟩
  obtain ⟨p2, hp2⟩ : ∃ p, numS 256 p1.2 = p := ⟨_, rfl⟩
  obtain ⟨N, hN⟩ : ∃ N : Nat, p2.1 = N := ⟨p2.1.toNat, by have := (numS_pos 256 p1.2).1; rw [hp2] at this; omega⟩
  have hN2 : N ≤ 256 := by have := (numS_pos 256 p1.2).2; rw [hp2, hN] at this; omega
  have HN0 : Hid (∀ K bt wx, bt = b.take m → Rdg w wx K (.slice a m c) bt (bt, 0) → Calls Try.prog 35 #[.pointer (some ⟨K, 0, none⟩), .int .u64 7] wx fun e w' => e = .returned (.int .i64 p0.1) ∧ Rdg w w' K (.slice a m c) bt p0.2 ∧ Kx K wx w') := fun K bt wx q0 q => by subst q0; have := Num_any 7 (by decide) q; rw [hp0] at this; exact this
  have HN1 : Hid (∀ K bt wx, Rdg w wx K (.slice a m c) bt p0.2 → Calls Try.prog 35 #[.pointer (some ⟨K, 0, none⟩), .int .u64 7] wx fun e w' => e = .returned (.int .i64 p1.1) ∧ Rdg w w' K (.slice a m c) bt p1.2 ∧ Kx K wx w') := fun K bt wx q => by have := Num_any 7 (by decide) q; rw [hp1] at this; exact this
  have HN2 : Hid (∀ K bt wx, Rdg w wx K (.slice a m c) bt p1.2 → Calls Try.prog 35 #[.pointer (some ⟨K, 0, none⟩), .int .u64 256] wx fun e w' => e = .returned (.int .i64 (N : Int)) ∧ Rdg w w' K (.slice a m c) bt p2.2 ∧ Kx K wx w') := fun K bt wx q => by have := Num_any 256 (by decide) q; rw [hp2, hN] at this; exact this
  have HFin : Hid (readM b = endS (p0.1, p1.1, (mssS p0.1 p1.1 N p2.2).1) (mssS p0.1 p1.1 N p2.2).2) := by
    show _ = _
    unfold readM
    rw [if_neg hb, if_pos hs, hm]
    unfold bodyS
    rw [hp0, hp1, hp2, hN, Int.toNat_natCast]
  rw [hm] at HS HCs hd
  clear hp0 hp1 hp2 hN hs
  generalize readM b = rM at *
  generalize str (sealB (b.take m)) = s1 at *
  generalize str b = s2 at *
  generalize sealB (b.take m) = sb at *
  clear hrest HZ
  generalize hn : b.length = n at *
  go_enter Try.func17, Try.ntmps17
  go_wp2
  refine wp_region_held_drew (S := (fun w' => (convert 27 9 (.slice a n c)).run Try.prog w' = .ok (.string s2) w')) (by kernel_rfl) (by (try dsimp only); go_keep) (fun hHeld => ?_)
  refine wpAnyH_take (i := 0) (oi := { dst := some 14, op := Op.move (Operand.tmp 0), type := 27, pos := "ref.go:151", after := #[], guard := none }) (v := (.slice a n c)) rfl (by kernel_rfl) (by kernel_rfl) (by kernel_rfl) (fun _ _ _ h => h) (Or.inl ⟨by rfl, ?_⟩) hHeld ?_
  · intro w hSw; (try dsimp only at hSw); go_simp
  try simp only [Act.put, List.setIfInBounds_toArray, List.set_cons_zero, List.set_cons_succ]
  refine wpAnyH_take (i := 1) (oi := { dst := some 15, op := Op.move (Operand.tmp 0), type := 27, pos := "ref.go:151", after := #[], guard := none }) (v := (.slice a n c)) rfl (by kernel_rfl) (by kernel_rfl) (by kernel_rfl) (fun _ _ _ h => h) (Or.inl ⟨by rfl, ?_⟩) hHeld ?_
  · intro w hSw; (try dsimp only at hSw); go_simp
  try simp only [Act.put, List.setIfInBounds_toArray, List.set_cons_zero, List.set_cons_succ]
  refine wpAnyH_take (i := 2) (oi := { dst := some 16, op := Op.call { callee := Callee.builtin Builtin.len, args := #[Operand.tmp 15], argTypes := #[27] }, type := 3, pos := "ref.go:151", after := #[{ on := 1, ground := Ground.data }], guard := none }) (v := (.int .i64 n)) rfl (by kernel_rfl) (by kernel_rfl) (by kernel_rfl) (fun _ _ _ h => h) (Or.inl ⟨by rfl, ?_⟩) hHeld ?_
  · intro w hSw; (try dsimp only at hSw); go_simp
  try simp only [Act.put, List.setIfInBounds_toArray, List.set_cons_zero, List.set_cons_succ]
  refine wpAnyH_take (i := 3) (oi := { dst := some 17, op := Op.binOp BinOp.sub 3 (Operand.tmp 16) (Operand.const (Value.int IntKind.i64 4)) 3, type := 3, pos := "ref.go:151", after := #[{ on := 2, ground := Ground.data }], guard := none }) (v := (.int .i64 m)) rfl (by kernel_rfl) (by kernel_rfl) (by kernel_rfl) (fun _ _ _ h => h) (Or.inl ⟨by rfl, ?_⟩) hHeld ?_
  · intro w hSw; (try dsimp only at hSw); go_simp
  try simp only [Act.put, List.setIfInBounds_toArray, List.set_cons_zero, List.set_cons_succ]
  refine wpAnyH_take (i := 4) (oi := { dst := some 18, op := Op.slice 27 (Operand.tmp 14) none (some (Operand.tmp 17)) none, type := 27, pos := "ref.go:151", after := #[{ on := 0, ground := Ground.data }, { on := 3, ground := Ground.data }], guard := none }) (v := (.slice a m c)) rfl (by kernel_rfl) (by kernel_rfl) (by kernel_rfl) (fun _ _ _ h => h) (Or.inl ⟨by rfl, ?_⟩) hHeld ?_
  · intro w hSw; (try dsimp only at hSw); go_simp
  try simp only [Act.put, List.setIfInBounds_toArray, List.set_cons_zero, List.set_cons_succ]
  refine wpAnyH_take (i := 7) (oi := { dst := some 21, op := Op.move (Operand.tmp 0), type := 27, pos := "ref.go:151", after := #[], guard := none }) (v := (.slice a n c)) rfl (by kernel_rfl) (by kernel_rfl) (by kernel_rfl) (fun _ _ _ h => h) (Or.inl ⟨by rfl, ?_⟩) hHeld ?_
  · intro w hSw; (try dsimp only at hSw); go_simp
  try simp only [Act.put, List.setIfInBounds_toArray, List.set_cons_zero, List.set_cons_succ]
  refine wpAnyH_take (i := 8) (oi := { dst := some 22, op := Op.convert 27 9 (Operand.tmp 21), type := 9, pos := "ref.go:151", after := #[{ on := 7, ground := Ground.data }], guard := none }) (v := (.string s2)) rfl (by kernel_rfl) (by kernel_rfl) (by kernel_rfl) (fun _ _ _ h => h) (Or.inl ⟨by rfl, ?_⟩) hHeld ?_
  · intro w hSw; (try dsimp only at hSw); go_simp
  try simp only [Act.put, List.setIfInBounds_toArray, List.set_cons_zero, List.set_cons_succ]
  refine wpAnyH_ready (rs := [5]) (by kernel_rfl) (by simp) ?_
  refine AllReadyH.cons (o := { dst := some 19, op := Op.call { callee := Callee.value (Operand.func 19), args := #[Operand.tmp 18], argTypes := #[27] }, type := 27, pos := "ref.go:151", after := #[{ on := 4, ground := Ground.data }], guard := none }) rfl (fun K hK => ?_) AllReadyH.nil
  go_simp
  refine (HS.out _ (HB0.out.trans (((Below.refl _ _).drew).mono HB0.out.size))).mono ?_
  rintro e w1 ⟨v1, rfl, ho, qB⟩
  have HB1 : Hid (Below (w.heap.size + 1) (w.alloc (Obj.cells #[.int .i64 0, .int .i64 0, .slice none 0 0] 24)) w1) := (Below.refl _ _).drew.trans (qB.mono (Nat.le_of_eq hsz.symm))
  have k1 := HCv.out w1 (HB0.out.trans (HB1.out.mono (Nat.le_succ _)))
  have hro := ReadsV.of_own ho
  obtain ⟨a1, c1, e1, _⟩ := id hro
  subst e1
  have k2 := HCs.out w1 _ hro
  obtain ⟨z0, z1, z2, zf⟩ := (HF.out w1 HB1.out).1
  clear ho qB hro
  refine hK.out _ _ k1 (fun hHeld2 => ?_)
  clear hK K hHeld
  have hHeld := hHeld2
  clear hHeld2
  try simp only [Act.put, List.setIfInBounds_toArray, List.set_cons_zero, List.set_cons_succ]
  refine wpAnyH_ready (rs := [6]) (by kernel_rfl) (by simp) ?_
  refine AllReadyH.cons (o := { dst := some 20, op := Op.convert 27 9 (Operand.tmp 19), type := 9, pos := "ref.go:151", after := #[{ on := 5, ground := Ground.data }], guard := none }) rfl (fun K hK => ?_) AllReadyH.nil
  go_simp
  refine hK.out _ _ k1 (fun hHeld2 => ?_)
  clear hK K hHeld
  have hHeld := hHeld2
  clear hHeld2
  try simp only [Act.put, List.setIfInBounds_toArray, List.set_cons_zero, List.set_cons_succ]
  refine wpAnyH_take (i := 9) (oi := { dst := some 23, op := Op.binOp BinOp.neq 9 (Operand.tmp 20) (Operand.tmp 22) 9, type := 4, pos := "ref.go:151", after := #[{ on := 6, ground := Ground.data }, { on := 8, ground := Ground.data }], guard := none }) (v := (.bool false)) rfl (by kernel_rfl) (by kernel_rfl) (by kernel_rfl) (fun _ _ _ h => h) (Or.inl ⟨by rfl, ?_⟩) hHeld ?_
  · intro w hSw; (try dsimp only at hSw); go_simp
  try simp only [Act.put, List.setIfInBounds_toArray, List.set_cons_zero, List.set_cons_succ]
  refine wpAnyH_done (by kernel_rfl) ?_ _
  rotate_left 1
  have HP0 : Hid (Px w ((w1.alloc (Obj.cells #[.slice a m c, .int .i64 0, .int .i64 0] 63)).alloc (Obj.cells #[.int .i64 0, .int .i64 0, .slice none 0 0] 24)) w1.heap.size (.slice a m c) (b.take m) (b.take m, 0) (.int .i64 0) (.int .i64 0) (.slice none 0 0)) := Px.first (reads_take HR.out hm3n) (by rw [List.length_take]; omega) (HF.out w1 HB1.out).1 (HB0.out.trans (HB1.out.mono (Nat.le_succ _)))
  clear z0 z1 z2 zf k0 k1 k2 hd HCv HCs HS HB1 HF HR
  have hm4 : (n : Int) - 4 = (m : Int) := by omega
  have hbt : ∃ bt, bt = b.take m := ⟨_, rfl⟩
  obtain ⟨bt, hbt⟩ := hbt
  rw [← hbt] at HP0
  go_wp2_with (first
    | (go_at_call 35; refine (HN2.out _ _ _ HP2.out.rd).mono ?_; rintro e w4 ⟨rfl, q1, q2⟩; have HP3 : Hid (Px w w4 w1.heap.size (.slice a m c) bt p2.2 (.int .i64 p0.1) (.int .i64 p1.1) (.slice none 0 0)) := HP2.out.num q1 q2; clear q1 q2)
    | (go_at_call 35; refine (HN1.out _ _ _ HP1.out.rd).mono ?_; rintro e w3 ⟨rfl, q1, q2⟩; have G1 : Hid (Px w w3 w1.heap.size (.slice a m c) bt p1.2 (.int .i64 p0.1) (.int .i64 0) (.slice none 0 0)) := HP1.out.num q1 q2; obtain ⟨d0, d1, d2, df⟩ := G1.out.c; have HP2 : Hid (Px w (w3.setCell ⟨w1.heap.size + 1, 1, none⟩ (.int .i64 p1.1)) w1.heap.size (.slice a m c) bt p1.2 (.int .i64 p0.1) (.int .i64 p1.1) (.slice none 0 0)) := G1.out.put 1 _; clear q1 q2)
    | (go_at_call 35; refine (HN0.out _ _ _ hbt HP0.out.rd).mono ?_; rintro e w2 ⟨rfl, q1, q2⟩; have G0 : Hid (Px w w2 w1.heap.size (.slice a m c) bt p0.2 (.int .i64 0) (.int .i64 0) (.slice none 0 0)) := HP0.out.num q1 q2; obtain ⟨c0, c1, c2, cf⟩ := G0.out.c; have HP1 : Hid (Px w (w2.setCell ⟨w1.heap.size + 1, 0, none⟩ (.int .i64 p0.1)) w1.heap.size (.slice a m c) bt p0.2 (.int .i64 p0.1) (.int .i64 0) (.slice none 0 0)) := G0.out.put 0 _; clear q1 q2))
  have HSb : Hid (∀ g, SB (.slice a m c) g → SB (.slice a n c) g) := fun g h => by cases a <;> exact h
  generalize hv : Value.slice a m c = v at *
  have HM : Hid (∃ ma mc, Ql w w4 w1.heap.size v bt (mssS p0.1 p1.1 0 p2.2).2 (mssS p0.1 p1.1 0 p2.2).1 (.int .i64 p0.1) (.int .i64 p1.1) ma mc) := ⟨none, 0, HP3.out, Gr.nil _ _ _ _ _⟩
  clear c0 c1 c2 cf d0 d1 d2 df HP0 HP1 HP2 HP3 G0 G1 HN0 HN1 HN2
  generalize w1.heap.size = K at *
  go_loopw [7] (fun y wr => ∃ (i : Nat), i ≤ N ∧ y = .int .i64 i ∧ Hid (∃ ma mc, Ql w wr K v bt (mssS p0.1 p1.1 i p2.2).2 (mssS p0.1 p1.1 i p2.2).1 (.int .i64 p0.1) (.int .i64 p1.1) ma mc)) (fun y _ => N - (intOf y).toNat)
  case atStart => exact ⟨0, Nat.zero_le _, rfl, HM.out⟩
  case round =>
    clear HM
    obtain ⟨i, hi, rfl, HR⟩ := hrel
    obtain ⟨ma, mc, hq⟩ := HR.out
    have HQ : Hid (Ql w wr K v bt (mssS p0.1 p1.1 i p2.2).2 (mssS p0.1 p1.1 i p2.2).1 (.int .i64 p0.1) (.int .i64 p1.1) ma mc) := hq
    clear HR hq
    obtain ⟨rk, hrk, hrd, r0, r1, r2, rf⟩ := HQ.out.p.rd.c
    have hKl := HQ.out.p.rd.lt
    have hKz := HQ.out.p.lt
    by_cases hgo : i < N ∧ (mssS p0.1 p1.1 i p2.2).2.2 = 0
    · obtain ⟨hlt2, her⟩ := hgo
      have HNx : Hid (mssS p0.1 p1.1 (i + 1) p2.2 = ((mssS p0.1 p1.1 i p2.2).1 ++ [(msgS p0.1 p1.1 (mssS p0.1 p1.1 i p2.2).2).1], (msgS p0.1 p1.1 (mssS p0.1 p1.1 i p2.2).2).2)) := mss_next her
      have hln := mss_len2 p0.1 p1.1 p2.2 i
      rw [her] at r2
      clear her hrd
      generalize mssS p0.1 p1.1 i p2.2 = q at *
      obtain ⟨q1, hq1⟩ : ∃ p, msgS p0.1 p1.1 q.2 = p := ⟨_, rfl⟩
      rw [hq1] at HNx
      have HMs : Hid (∀ wx, Rdg w wx K v bt q.2 → Calls Try.prog 36 #[.pointer (some ⟨K, 0, none⟩), .int .i64 p0.1, .int .i64 p1.1] wx fun e w' => ∃ ax, e = .returned (.agg #[.int .i64 q1.1.kind, .int .i64 q1.1.grp, .int .i64 q1.1.frm, .int .i64 q1.1.to, .int .i64 q1.1.term, .int .i64 q1.1.at_, .int .i64 q1.1.att, .int .i64 q1.1.commit, .bool q1.1.ok, .slice ax.ea q1.1.ents.length ax.ec, .slice ax.da q1.1.data.length ax.dc]) ∧ MsV w' (fun g => (g < w.heap.size ∧ SB v g) ∨ wx.heap.size ≤ g) ax q1.1 ∧ Rdg w w' K v bt q1.2 ∧ Kx K wx w') := fun wx z => by have := RMsgR_any p0.1 p1.1 z; rw [hq1] at this; exact this
      obtain ⟨c0, c1, c2, cf⟩ := HQ.out.p.c
      have hB : K + 2 ≤ wr.heap.size := HQ.out.p.c.lt
      have HLn : Hid (q.1.length + [q1.1].length ≤ 1048576) := by show _ ≤ _; simp only [List.length_cons, List.length_nil]; omega
      clear hq1
      go_wp2_with (first
        | (at_builtin; refine list_appR tyMs (by decide) (B := K + 2) (S := (fun g => (g < w.heap.size ∧ SB v g) ∨ K + 2 ≤ g)) (P := fun g => (g < w.heap.size ∧ SB v g) ∨ wr.heap.size ≤ g) (ts := q.1) (l := [q1.1]) rfl (.tmp 60) (.tmp 62) rfl HGr.out HRw.out rfl (fun g hg _ => HPp.out g hg) (Nat.le_trans hB2 (Nat.le_trans (le_alloc _ _) (le_alloc _ _))) rfl rfl HLn.out ?_; intro v9 w9 g1 g2 g3; obtain ⟨a9, c9, rfl⟩ := Gr.form g1; have HG9 : Hid (Gr msR 51 w9 (K + 2) (fun g => (g < w.heap.size ∧ SB v g) ∨ K + 2 ≤ g) (.slice a9 (q.1 ++ [q1.1]).length c9) (q.1 ++ [q1.1])) := g1; have HX9 : Hid (Px w w9 K v bt q1.2 (.int .i64 p0.1) (.int .i64 p1.1) (.slice ma q.1.length mc)) := HX2.out.over ((((Below.refl _ _).alloc hB2 _).alloc (Nat.le_trans hB2 (le_alloc _ _)) _).grown g2 (Nat.le_trans hB2 (Nat.le_trans (le_alloc _ _) (le_alloc _ _))) (fun k hk => (HQ.out.g.own k hk).1)); obtain ⟨j0, j1, j2, jf⟩ := HX9.out.c; clear g1 g2 g3)
        | (go_at_call 36; refine (HMs.out _ HQ.out.p.rd).mono ?_; rintro e w2 ⟨ax, rfl, hm, z1, z2⟩; have HMm : Hid (MsV w2 (fun g => (g < w.heap.size ∧ SB v g) ∨ wr.heap.size ≤ g) ax q1.1) := hm; have HX2 : Hid (Px w w2 K v bt q1.2 (.int .i64 p0.1) (.int .i64 p1.1) (.slice ma q.1.length mc)) := HQ.out.p.num z1 z2; have hs2 : wr.heap.size ≤ w2.heap.size := z2.b.size; have hB2 : K + 2 ≤ w2.heap.size := Nat.le_trans hB hs2; have HGr : Hid (Gr msR 51 ((w2.alloc (Obj.cells #[.int .i64 q1.1.kind, .int .i64 q1.1.grp, .int .i64 q1.1.frm, .int .i64 q1.1.to, .int .i64 q1.1.term, .int .i64 q1.1.at_, .int .i64 q1.1.att, .int .i64 q1.1.commit, .bool q1.1.ok, .slice ax.ea q1.1.ents.length ax.ec, .slice ax.da q1.1.data.length ax.dc] 51)).alloc (Obj.cells #[.int .i64 q1.1.kind, .int .i64 q1.1.grp, .int .i64 q1.1.frm, .int .i64 q1.1.to, .int .i64 q1.1.term, .int .i64 q1.1.at_, .int .i64 q1.1.att, .int .i64 q1.1.commit, .bool q1.1.ok, .slice ax.ea q1.1.ents.length ax.ec, .slice ax.da q1.1.data.length ax.dc] 51)) (K + 2) (fun g => (g < w.heap.size ∧ SB v g) ∨ K + 2 ≤ g) (.slice ma q.1.length mc) q.1) := (HQ.out.g.kept (fun g hg => z2.k g (HQ.out.g.own g hg).2 (by have := (HQ.out.g.own g hg).1; omega)) (fun g hg _ hl => ⟨z2.k g hl (by have := hg; omega), hg⟩)).below (((Below.refl _ _).alloc (Nat.le_refl _) _).alloc (le_alloc _ _) _); have HRw : Hid (RwV msR ((w2.alloc (Obj.cells #[.int .i64 q1.1.kind, .int .i64 q1.1.grp, .int .i64 q1.1.frm, .int .i64 q1.1.to, .int .i64 q1.1.term, .int .i64 q1.1.at_, .int .i64 q1.1.att, .int .i64 q1.1.commit, .bool q1.1.ok, .slice ax.ea q1.1.ents.length ax.ec, .slice ax.da q1.1.data.length ax.dc] 51)).alloc (Obj.cells #[.int .i64 q1.1.kind, .int .i64 q1.1.grp, .int .i64 q1.1.frm, .int .i64 q1.1.to, .int .i64 q1.1.term, .int .i64 q1.1.at_, .int .i64 q1.1.att, .int .i64 q1.1.commit, .bool q1.1.ok, .slice ax.ea q1.1.ents.length ax.ec, .slice ax.da q1.1.data.length ax.dc] 51)) (fun g => (g < w.heap.size ∧ SB v g) ∨ wr.heap.size ≤ g) (some ⟨w2.heap.size + 1, 0, none⟩) 1 [q1.1]) := RwV.one (r := msR) (us := msCells ax q1.1) (size_alloc _ _).symm (Or.inr (Nat.le_trans hs2 (Nat.le_succ _))) ⟨ax, rfl, hm.below ((Below.refl _ _).alloc (Nat.le_refl _) _)⟩; have HPp : Hid (∀ g, ((g < w.heap.size ∧ SB v g) ∨ wr.heap.size ≤ g) → ((g < w.heap.size ∧ SB v g) ∨ K + 2 ≤ g) ∧ (Value.slice ma q.1.length mc).ownBlock ≠ some g) := fun g hg => ⟨hg.imp id (fun h => by omega), fun e => by { have := HQ.out.g.own g e; omega }⟩; have hX2c := HX2.out.c; obtain ⟨e0, e1, e2, ef⟩ := hX2c; have hbb := Cl11.new w2 (.int .i64 q1.1.kind) (.int .i64 q1.1.grp) (.int .i64 q1.1.frm) (.int .i64 q1.1.to) (.int .i64 q1.1.term) (.int .i64 q1.1.at_) (.int .i64 q1.1.att) (.int .i64 q1.1.commit) (.bool q1.1.ok) (.slice ax.ea q1.1.ents.length ax.ec) (.slice ax.da q1.1.data.length ax.dc) 51; obtain ⟨t0, t1, t2, t3, t4, t5, t6, t7, t8, t9, t10, tf⟩ := hbb; have hKl2 := HX2.out.c.lt; clear hm z1 z2))
      go_roundw
      case rel => exact ⟨i + 1, by omega, by go_num, a9, c9, by
        rw [HNx.out]
        have hl : (q.1 ++ [q1.1]).length = q.1.length + 1 := by simp
        have h1 := HX9.out.put 2 (.slice a9 (q.1.length + 1) c9)
        have h2 := HG9.out.kept (w' := w9.setCell ⟨K + 1, 2, none⟩ (.slice a9 (q.1.length + 1) c9)) (S' := (fun g => (g < w.heap.size ∧ SB v g) ∨ K + 2 ≤ g)) (fun g hg => Below.heap_setCell w9 ⟨K + 1, 2, none⟩ _ g (show g ≠ K + 1 by have := (HG9.out.own g hg).1; omega)) (fun g hg _ hl => ⟨Below.heap_setCell w9 ⟨K + 1, 2, none⟩ _ g (show g ≠ K + 1 by have := hg; omega), hg⟩)
        rw [hl] at h2
        refine ⟨?_, ?_⟩
        · show Px w _ K v bt q1.2 (.int .i64 p0.1) (.int .i64 p1.1) (.slice a9 (q.1 ++ [q1.1]).length c9)
          rw [hl]
          exact h1
        · show Gr msR _ _ _ _ (.slice a9 (q.1 ++ [q1.1]).length c9) _
          rw [hl]
          exact h2⟩
      case measure => simp [intOf]; omega
    · have hS : mssS p0.1 p1.1 N p2.2 = mssS p0.1 p1.1 i p2.2 := by
        by_cases hlt2 : i < N
        · have := mss_stop (f := p0.1) (t := p1.1) (s := p2.2) (i := i) (fun e => hgo ⟨hlt2, e⟩) (N - i)
          rw [show i + (N - i) = N by omega] at this
          exact this
        · rw [show N = i by omega]
      have hc : i < N → ¬ (mssS p0.1 p1.1 i p2.2).2.2 = 0 := fun q e => hgo ⟨q, e⟩
      have HE : rM = endS (p0.1, p1.1, (mssS p0.1 p1.1 i p2.2).1) (mssS p0.1 p1.1 i p2.2).2 := by rw [HFin.out, hS]
      clear HFin hgo hS
      generalize mssS p0.1 p1.1 i p2.2 = q at *
      have hbl : bt.length = m := by rw [hbt, List.length_take]; omega
      obtain ⟨c0, c1, c2, cf⟩ := HQ.out.p.c
      obtain ⟨z0, z1, z2, zf⟩ := HQ.out.p.z
      have hB : K + 2 ≤ wr.heap.size := HQ.out.p.c.lt
      have hne1 : K ≠ w.heap.size := by omega
      have hne2 : w.heap.size ≠ K := by omega
      have hz : w.heap.size < wr.heap.size := by omega
      have HZ : Hid (Cell3 wr w.heap.size (.int .i64 0) (.int .i64 0) (.slice none 0 0)) := HQ.out.p.z
      have HW : Hid (Below w.heap.size w wr) := HQ.out.p.rd.l
      have y1 : i < N ∨ ¬ i < N := by omega
      by_cases her : q.2.2 = 0
      · have hiN : ¬ i < N := fun e => hc e her
        rw [her] at r2
        by_cases hrest : q.2.1 = []
        · have hkm : ¬ (rk : Int) < (m : Int) := by
            rw [hrd] at hrest
            have := List.drop_eq_nil_iff.1 hrest
            omega
          have HCk : Hid (∀ wx, Below wr.heap.size wr wx → Calls Try.prog 15 #[.agg #[.int .i64 p0.1, .int .i64 p1.1, .slice ma q.1.length mc]] wx fun e w' => e = .returned (.int .i64 (pchk p0.1 p1.1 q.1)) ∧ Below wx.heap.size wx w') := fun wx z => RCheck_any (HQ.out.g.reads.2.below z)
          have HRw : Hid (RwV msR wr (fun g => (g < w.heap.size ∧ SB v g) ∨ K + 2 ≤ g) ma mc q.1) := HQ.out.g.reads.2.sub (fun g hg _ => by rcases hg with hg | hg; exact hg; exact .inr hg)
          by_cases hck : pchk p0.1 p1.1 q.1 = 0
          · have hend : rM = ((p0.1, p1.1, q.1), 0) := by rw [HE]; unfold endS; rw [if_pos her, if_pos hrest, if_pos hck]
            have HF2 : Hid (∀ w', RwV msR w' (fun g => (g < w.heap.size ∧ SB (.slice a n c) g) ∨ w.heap.size ≤ g) ma mc q.1 → Below w.heap.size w w' → ReadP rM (.slice a n c) w (.returned (.tuple #[.agg #[.int .i64 p0.1, .int .i64 p1.1, .slice ma q.1.length mc], .int .i64 0])) w') := fun w' y1 y2 => by rw [hend]; exact ⟨ma, mc, rfl, y1, y2⟩
            rw [hck] at HCk
            clear HE hend hck hrest her hrd hc
            go_wp2_with (go_at_call 15; refine (HCk.out _ (Below.refl _ _)).mono ?_; rintro e w2 ⟨rfl, qB⟩; have HB2 : Hid (Below wr.heap.size wr w2) := qB; have hpc := HQ.out.p.below qB; obtain ⟨e0, e1, e2, ef⟩ := hpc.c; obtain ⟨x0, x1, x2, xf⟩ := hpc.z; have hKl2 := hpc.c.lt; clear qB hpc)
            have HX := box_put (HZ.out.kept (HB2.out.block _ hz)) (HW.out.trans (HB2.out.mono HW.out.size)) (.int .i64 p0.1) (.int .i64 p1.1) (.slice ma q.1.length mc)
            have HRf := (HRw.out.below HB2.out).kept (w' := ((w2.setCell ⟨w.heap.size, 0, none⟩ (.int .i64 p0.1)).setCell ⟨w.heap.size, 1, none⟩ (.int .i64 p1.1)).setCell ⟨w.heap.size, 2, none⟩ (.slice ma q.1.length mc)) (Q := fun g => (g < w.heap.size ∧ SB (.slice a n c) g) ∨ w.heap.size ≤ g) (fun g hg _ => ⟨three_other (o := 0) (show g ≠ w.heap.size by omega), hg.imp (fun h => ⟨h.1, HSb.out g h.2⟩) (fun h => by omega)⟩)
            first
              | exact bodyPost_ret (resRead _ HX.1 rfl) rfl (HF2.out _ HRf HX.2)
              | exact bodyPost_ret (resRead _ (HX.1.kept rfl) rfl) rfl (HF2.out _ (HRf.below (Below.refl _ _).drew) HX.2.drew)
          · have hend : rM = (zPk, pchk p0.1 p1.1 q.1) := by rw [HE]; unfold endS; rw [if_pos her, if_pos hrest, if_neg hck]
            obtain ⟨cd, hcd⟩ : ∃ cd, pchk p0.1 p1.1 q.1 = cd := ⟨_, rfl⟩
            rw [hcd] at HCk hend hck
            have HF2 : Hid (∀ w', Below w.heap.size w w' → ReadP rM (.slice a n c) w (.returned (.tuple #[.agg #[.int .i64 0, .int .i64 0, .slice none 0 0], .int .i64 cd])) w') := fun w' y2 => by rw [hend]; exact ⟨none, 0, rfl, RwV.nil _ _ _, y2⟩
            have y3 : (cd == 0) = false := beq_eq_false_iff_ne.2 hck
            have y4 : (cd != 0) = true := by rw [bne, y3]; rfl
            clear HE hend hck hcd hrest her hrd hc HRw
            go_wp2_with (go_at_call 15; refine (HCk.out _ (Below.refl _ _)).mono ?_; rintro e w2 ⟨rfl, qB⟩; have HB2 : Hid (Below wr.heap.size wr w2) := qB; have hpc := HQ.out.p.below qB; obtain ⟨e0, e1, e2, ef⟩ := hpc.c; obtain ⟨x0, x1, x2, xf⟩ := hpc.z; have hKl2 := hpc.c.lt; clear qB hpc)
            have HX := box_put (HZ.out.kept (HB2.out.block _ hz)) (HW.out.trans (HB2.out.mono HW.out.size)) (.int .i64 0) (.int .i64 0) (.slice none 0 0)
            first
              | exact bodyPost_ret (resRead _ HX.1 rfl) rfl (HF2.out _ HX.2)
              | exact bodyPost_ret (resRead _ (HX.1.kept rfl) rfl) rfl (HF2.out _ HX.2.drew)
        · have hkm : (rk : Int) < (m : Int) := by
            have : ¬ bt.length ≤ rk := fun e => hrest (by rw [hrd]; exact List.drop_of_length_le e)
            omega
          have hend : rM = (zPk, 3) := by rw [HE]; unfold endS; rw [if_pos her, if_neg hrest]
          have HF2 : Hid (∀ w', Below w.heap.size w w' → ReadP rM (.slice a n c) w (.returned (.tuple #[.agg #[.int .i64 0, .int .i64 0, .slice none 0 0], .int .i64 3])) w') := fun w' y2 => by rw [hend]; exact ⟨none, 0, rfl, RwV.nil _ _ _, y2⟩
          clear HE hend hrest her hrd hc
          go_wp2
          have HX := box_put HZ.out HW.out (.int .i64 0) (.int .i64 0) (.slice none 0 0)
          first
            | exact bodyPost_ret (resRead _ HX.1 rfl) rfl (HF2.out _ HX.2)
            | exact bodyPost_ret (resRead _ (HX.1.kept rfl) rfl) rfl (HF2.out _ HX.2.drew)
      · have hend : rM = (zPk, q.2.2) := by rw [HE]; unfold endS; rw [if_neg her]
        obtain ⟨er, her2⟩ : ∃ er, q.2.2 = er := ⟨_, rfl⟩
        rw [her2] at r2 her hend
        have HF2 : Hid (∀ w', Below w.heap.size w w' → ReadP rM (.slice a n c) w (.returned (.tuple #[.agg #[.int .i64 0, .int .i64 0, .slice none 0 0], .int .i64 er])) w') := fun w' y2 => by rw [hend]; exact ⟨none, 0, rfl, RwV.nil _ _ _, y2⟩
        have y3 : (er == 0) = false := beq_eq_false_iff_ne.2 her
        have y4 : (er != 0) = true := by rw [bne, y3]; rfl
        clear HE hend her her2 hrd hc
        rcases y1 with y1 | y1
        all_goals (
          go_wp2
          go_region_held3 (fun w' => w'.cell? ⟨K, 2, none⟩ = some (.int .i64 er)) (go_keep) (fail)
          all_goals (
            go_wp2
            have HX := box_put HZ.out HW.out (.int .i64 0) (.int .i64 0) (.slice none 0 0)
            first
              | exact bodyPost_ret (resRead _ HX.1 rfl) rfl (HF2.out _ HX.2)
              | exact bodyPost_ret (resRead _ (HX.1.kept rfl) rfl) rfl (HF2.out _ HX.2.drew)))
theorem RRead_any {w : World} {v : Value} {b : BB} (h : ReadsV w v b) (hl : b.length ≤ 1000000) : Calls Try.prog 17 #[v] w (ReadP (readM b) v w) := by
  by_cases hb : b.length < 4
  · exact RRead_short h hb
  · by_cases hs : sealB (b.take (b.length - 4)) = b
    · exact RRead_go h hb hs hl
    · exact RRead_sum h hb hs hl
end Go.Proofs.Ytcaddedkodjgcaa
