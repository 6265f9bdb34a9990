/-
  The law's definition of a fork of two jobs: its contract.
-/
import Derived.Test.YtlaiacjlphjmlaaFwG
import Derived.Test.YtlaiacjlphjmlaaRcZ
namespace Go.Proofs.Ytlaiacjlphjmlaa
section
open Go.RowKit
set_option linter.unusedVariables false

theorem list_flow {ops : Array Oper} {rest : List Oper} {o : Oper} {a : Act} {Q : Exit → Act → World → Prop} {wX : World} (hgd : o.guard = none) (s x : Operand)
    (ho : o.op = .call { callee := .builtin .append, args := #[s, x], argTypes := #[35, 35] }) {B g : Nat} {v : Value} {rk : Int} {ra : Option Addr} {rl rc : Nat} {ts : List Fl} {y : Fl}
    (hl : Gw flowR 39 2 wX B v ts) (hy : flowR wX (fun g => B ≤ g ∧ v.ownBlock ≠ some g) [.int .i64 rk, .slice ra rl rc] y) (hbase : B ≤ wX.heap.size) (hs : a.eval s = v) (hx : a.eval x = .slice (some ⟨g, 0, none⟩) 1 1) (hg : g = wX.heap.size) (hlen : ts.length ≤ 1048576)
    (h : ∀ v' w', Gw flowR 39 2 w' B v' (ts ++ [y]) → (wX.alloc (.cells #[.int .i64 rk, .slice ra rl rc] 39)).grownBy w' v.ownBlock → wpList Try.prog ops Q rest (a.put o.dst v') w') : wpList Try.prog ops Q (o :: rest) a (wX.alloc (.cells #[.int .i64 rk, .slice ra rl rc] 39)) :=
  list_gw flowR_kept 35 39 2 32 _ hgd s x ho Try.underlying35 infoF rfl (by decide) (by decide) hl rfl (by simp [Value.oneCell']) hy hbase hs hx hg hlen h
def toF (x : Nat) : Fl := ⟨(x : Int), []⟩
theorem take_one {α : Type} {l : List Nat} {f : Nat → α} {i : Nat} (h : i < l.length) : (l.take (i + 1)).map f = (l.take i).map f ++ [f (l.getD i 0)] := by
  rw [List.take_succ_eq_append_getElem h, List.map_append]
  simp [List.getD_eq_getElem?_getD, h]
set_option maxRecDepth 100000 in
set_option maxHeartbeats 600000 in
theorem outs_any (g : Nat) (l : List Nat) (w : World) (hr : RowN w g l) (hl : l.length ≤ 16) (hx : ∀ x ∈ l, x ≤ 4096) :
    Calls Try.prog 26 #[.slice (some ⟨g, 0, none⟩) l.length l.length] w fun e w' => ∃ v', e = .returned v' ∧ Gw flowR 39 2 w' w.heap.size v' (l.map toF) ∧ Below w.heap.size w w' := by
  have HR : Hid (∀ wr, Below w.heap.size w wr → 0 < l.length → RowN wr g l) := fun wr q h0 => hr.kept (q.block g (World.block_lt_of_cell? _ _ (hr.c 0 h0)))
  have HX : Hid (∀ i, l.getD i 0 ≤ 4096) := fun i => getD_mem_le hx
  clear hr hx
  go_enter Try.func26, Try.ntmps26
  go_wp2
  go_loopw [3, 4] (fun v i wr => ∃ (j : Nat), j ≤ l.length ∧ i = .int .i64 j ∧ Hid (Gw flowR 39 2 wr w.heap.size v ((l.take j).map toF) ∧ Below w.heap.size w wr)) (fun _ i _ => l.length - (intOf i).toNat)
  case atStart => exact ⟨0, Nat.zero_le _, rfl, Gw.nil _ _ _ _ _, Below.refl _ _⟩
  case round =>
    obtain ⟨j, hj, rfl, HG⟩ := hrel
    by_cases hlt : j < l.length
    · have c1 := (HR.out wr HG.out.2 (by omega)).c j hlt
      have hlg := World.block_lt_of_cell? _ _ c1
      have HLn : Hid (((l.take j).map toF).length ≤ 1048576) := by show _ ≤ _; simp; omega
      have HY : Hid (flowR wr (fun g => w.heap.size ≤ g ∧ u3.ownBlock ≠ some g) [.int .i64 ((l.getD j 0 : Nat) : Int), .slice none 0 0] (toF (l.getD j 0))) := ⟨none, 0, rfl, ExsV.nil _ _, by have := HX.out j; show _ ≤ ((l.getD j 0 : Nat) : Int); omega, by have := HX.out j; show ((l.getD j 0 : Nat) : Int) ≤ _; omega⟩
      have HT : Hid ((l.take (j + 1)).map toF = (l.take j).map toF ++ [toF (l.getD j 0)]) := take_one hlt
      generalize hq : l.getD j 0 = q at *
      clear hq
      go_wp2_with (at_builtin; refine list_flow rfl (.tmp 11) (.tmp 17) rfl HG.out.1 HY.out HG.out.2.size rfl rfl rfl HLn.out ?_; intro v5 w5 h5 hg5; have G5 : Hid (Gw flowR 39 2 w5 w.heap.size v5 ((l.take (j + 1)).map toF) ∧ Below w.heap.size w w5) := ⟨by rw [HT.out]; exact h5, (HG.out.2.alloc HG.out.2.size _).grown hg5 (Nat.le_trans HG.out.2.size (le_alloc _ _)) HG.out.1.own⟩; clear h5 hg5)
      go_roundw
      case rel => exact ⟨j + 1, by omega, by go_num, G5⟩
      case measure => simp [intOf]; omega
    · have he : j = l.length := by omega
      subst he
      have HG2 : Hid (Gw flowR 39 2 wr w.heap.size u3 (l.map toF) ∧ Below w.heap.size w wr) := by have := HG.out; rw [List.take_length] at this; exact this
      clear HG
      go_wp2
      go_ret
      exact ⟨_, rfl, HG2.out⟩
theorem rowN_one (w : World) (x : Nat) : RowN (w.alloc (.cells #[.int .i64 (x : Nat)] 3)) w.heap.size [x] := by
  have k := heap_alloc_new w (.cells #[.int .i64 (x : Nat)] 3)
  refine ⟨fun i hi => ?_, fun i => by simp only [World.frozen?]; rw [k]; simp⟩
  obtain rfl : i = 0 := by simpa using hi
  rw [cell_of_row _ _ _ _ 3 (0, 0) k]; rfl
theorem rowN_two (w : World) (x y : Nat) : RowN (w.alloc (.cells #[.int .i64 (x : Nat), .int .i64 (y : Nat)] 3)) w.heap.size [x, y] := by
  have k := heap_alloc_new w (.cells #[.int .i64 (x : Nat), .int .i64 (y : Nat)] 3)
  refine ⟨fun i hi => ?_, fun i => by simp only [World.frozen?]; rw [k]; simp⟩
  have : i = 0 ∨ i = 1 := by simp at hi; omega
  rcases this with rfl | rfl <;> (rw [cell_of_row _ _ _ _ 3 (0, 0) k]; rfl)
theorem outs_row (w : World) (o : Obj) (l : List Nat) (q : Nat) (hq : q = w.heap.size) (hr : RowN (w.alloc o) w.heap.size l) (hl : l.length ≤ 16) (hx : ∀ x ∈ l, x ≤ 4096) : Calls Try.prog 26 #[.slice (some ⟨q, 0, none⟩) l.length l.length] (w.alloc o) fun e w' => ∃ a c, e = .returned (.slice a l.length c) ∧ FlsV w' (fun g => w.heap.size ≤ g) (.slice a l.length c) (l.map toF) ∧ Below w.heap.size w w' := by
  subst hq
  refine (outs_any _ l _ hr hl hx).mono ?_
  rintro e w' ⟨v', rfl, h1, h2⟩
  obtain ⟨a, c, rfl⟩ := h1.form
  have hf := h1.flows (by simp; omega)
  rw [List.length_map] at hf ⊢
  exact ⟨a, c, rfl, hf.kept (kept_sub fun g hg => Nat.le_trans (le_alloc _ _) hg), below_new h2⟩
/-- A fork of two jobs. -/
def forkedD : Df := ⟨[102], [⟨1, [], 0, [], [toF 1]⟩, ⟨4, [], 0, [], [toF 2, toF 3]⟩, ⟨2, [112, 97, 121], 0, [], [toF 4]⟩, ⟨2, [115, 104, 105, 112], 0, [], [toF 4]⟩, ⟨5, [], 0, [], [toF 5]⟩, ⟨8, [], 0, [], []⟩]⟩
theorem forked_ok : ofE forkedD = 0 := by decide
end
section
open Go.RowKit
set_option linter.unusedVariables false

theorem forked_end {w w5 : World} {a1 a2 a3 a4 a5 : Option Addr} {c1 c2 c3 c4 c5 : Nat} {u0 u1 : Value} (hb : Below w.heap.size w w5) (hc : Cell2 w5 w.heap.size u0 u1)
    (f1 : FlsV w5 (fun g => w.heap.size < g) (.slice a1 1 c1) ([1].map toF)) (f2 : FlsV w5 (fun g => w.heap.size < g) (.slice a2 2 c2) ([2, 3].map toF)) (f3 : FlsV w5 (fun g => w.heap.size < g) (.slice a3 1 c3) ([4].map toF)) (f4 : FlsV w5 (fun g => w.heap.size < g) (.slice a4 1 c4) ([4].map toF)) (f5 : FlsV w5 (fun g => w.heap.size < g) (.slice a5 1 c5) ([5].map toF)) {W : World}
    (hW : W = ((w5.setCell ⟨w.heap.size, 0, none⟩ (.string ⟨#[102]⟩)).setCell ⟨w.heap.size, 1, none⟩ (.slice (some ⟨w5.heap.size, 0, none⟩) 6 6)).alloc (.cells #[.int .i64 1, .string ⟨#[]⟩, .int .i64 0, .slice none 0 0, .slice a1 1 c1, .int .i64 4, .string ⟨#[]⟩, .int .i64 0, .slice none 0 0, .slice a2 2 c2, .int .i64 2, .string ⟨#[112, 97, 121]⟩, .int .i64 0, .slice none 0 0, .slice a3 1 c3, .int .i64 2, .string ⟨#[115, 104, 105, 112]⟩, .int .i64 0, .slice none 0 0, .slice a4 1 c4, .int .i64 5, .string ⟨#[]⟩, .int .i64 0, .slice none 0 0, .slice a5 1 c5, .int .i64 8, .string ⟨#[]⟩, .int .i64 0, .slice none 0 0, .slice none 0 0] 37)) :
    Cell2 W w.heap.size (.string ⟨#[102]⟩) (.slice (some ⟨w5.heap.size, 0, none⟩) 6 6) ∧ DfV W (fun g => w.heap.size ≤ g) forkedD (some ⟨w5.heap.size, 0, none⟩) 6 ∧ Below w.heap.size w W := by
  have hlt := hc.lt
  have hs : ((w5.setCell ⟨w.heap.size, 0, none⟩ (.string ⟨#[102]⟩)).setCell ⟨w.heap.size, 1, none⟩ (.slice (some ⟨w5.heap.size, 0, none⟩) 6 6)).heap.size = w5.heap.size := by simp only [World.setCell, Array.size_modify]
  have hB2 := (hb.setCell (p := ⟨w.heap.size, 0, none⟩) (Nat.le_refl _) (.string ⟨#[102]⟩)).setCell (p := ⟨w.heap.size, 1, none⟩) (Nat.le_refl _) (.slice (some ⟨w5.heap.size, 0, none⟩) 6 6)
  have hB : Below w.heap.size w W := by rw [hW]; exact hB2.alloc (by rw [hs]; omega) _
  have hk : ∀ g, w.heap.size < g → g < w5.heap.size → W.heap[g]? = w5.heap[g]? ∧ w.heap.size ≤ g := fun g h1 h2 => ⟨by rw [hW, heap_alloc_old _ _ (by rw [hs]; exact h2)]; exact (Below.heap_setCell _ _ _ _ (by show g ≠ w.heap.size; omega)).trans (Below.heap_setCell _ _ _ _ (by show g ≠ w.heap.size; omega)), Nat.le_of_lt h1⟩
  have hr := heap_alloc_new ((w5.setCell ⟨w.heap.size, 0, none⟩ (.string ⟨#[102]⟩)).setCell ⟨w.heap.size, 1, none⟩ (.slice (some ⟨w5.heap.size, 0, none⟩) 6 6)) (.cells #[.int .i64 1, .string ⟨#[]⟩, .int .i64 0, .slice none 0 0, .slice a1 1 c1, .int .i64 4, .string ⟨#[]⟩, .int .i64 0, .slice none 0 0, .slice a2 2 c2, .int .i64 2, .string ⟨#[112, 97, 121]⟩, .int .i64 0, .slice none 0 0, .slice a3 1 c3, .int .i64 2, .string ⟨#[115, 104, 105, 112]⟩, .int .i64 0, .slice none 0 0, .slice a4 1 c4, .int .i64 5, .string ⟨#[]⟩, .int .i64 0, .slice none 0 0, .slice a5 1 c5, .int .i64 8, .string ⟨#[]⟩, .int .i64 0, .slice none 0 0, .slice none 0 0] 37)
  rw [hs, ← hW] at hr
  have hw : ∀ o, W.cell? ⟨w5.heap.size, o, none⟩ = _ := fun o => cell_of_row _ _ _ _ 37 (0, 0) hr
  have hcc : Cell2 W w.heap.size (.string ⟨#[102]⟩) (.slice (some ⟨w5.heap.size, 0, none⟩) 6 6) := by
    have := ((hc.put 0 (.string ⟨#[102]⟩)).put 1 (.slice (some ⟨w5.heap.size, 0, none⟩) 6 6)).alloc (.cells #[.int .i64 1, .string ⟨#[]⟩, .int .i64 0, .slice none 0 0, .slice a1 1 c1, .int .i64 4, .string ⟨#[]⟩, .int .i64 0, .slice none 0 0, .slice a2 2 c2, .int .i64 2, .string ⟨#[112, 97, 121]⟩, .int .i64 0, .slice none 0 0, .slice a3 1 c3, .int .i64 2, .string ⟨#[115, 104, 105, 112]⟩, .int .i64 0, .slice none 0 0, .slice a4 1 c4, .int .i64 5, .string ⟨#[]⟩, .int .i64 0, .slice none 0 0, .slice a5 1 c5, .int .i64 8, .string ⟨#[]⟩, .int .i64 0, .slice none 0 0, .slice none 0 0] 37)
    rw [hW]; exact this
  refine ⟨hcc, ⟨by decide, _, 6, rfl, Nat.le_refl _, by decide, fun i hi => ?_⟩, hB⟩
  have : i = 0 ∨ i = 1 ∨ i = 2 ∨ i = 3 ∨ i = 4 ∨ i = 5 := by simp [forkedD] at hi; omega
  rcases this with rfl | rfl | rfl | rfl | rfl | rfl
  · exact ⟨w5.heap.size, 0, none, 0, _, c1, rfl, Nat.le_of_lt hlt, by rw [hw]; rfl, by rw [hw]; rfl, by rw [hw]; rfl, by rw [hw]; rfl, by rw [hw]; rfl, ⟨by decide, by decide⟩, ⟨by decide, by decide⟩, by decide, ExsV.nil _ _, f1.kept hk⟩
  · exact ⟨w5.heap.size, 0, none, 0, _, c2, rfl, Nat.le_of_lt hlt, by rw [hw]; rfl, by rw [hw]; rfl, by rw [hw]; rfl, by rw [hw]; rfl, by rw [hw]; rfl, ⟨by decide, by decide⟩, ⟨by decide, by decide⟩, by decide, ExsV.nil _ _, f2.kept hk⟩
  · exact ⟨w5.heap.size, 0, none, 0, _, c3, rfl, Nat.le_of_lt hlt, by rw [hw]; rfl, by rw [hw]; rfl, by rw [hw]; rfl, by rw [hw]; rfl, by rw [hw]; rfl, ⟨by decide, by decide⟩, ⟨by decide, by decide⟩, by decide, ExsV.nil _ _, f3.kept hk⟩
  · exact ⟨w5.heap.size, 0, none, 0, _, c4, rfl, Nat.le_of_lt hlt, by rw [hw]; rfl, by rw [hw]; rfl, by rw [hw]; rfl, by rw [hw]; rfl, by rw [hw]; rfl, ⟨by decide, by decide⟩, ⟨by decide, by decide⟩, by decide, ExsV.nil _ _, f4.kept hk⟩
  · exact ⟨w5.heap.size, 0, none, 0, _, c5, rfl, Nat.le_of_lt hlt, by rw [hw]; rfl, by rw [hw]; rfl, by rw [hw]; rfl, by rw [hw]; rfl, by rw [hw]; rfl, ⟨by decide, by decide⟩, ⟨by decide, by decide⟩, by decide, ExsV.nil _ _, f5.kept hk⟩
  · exact ⟨w5.heap.size, 0, none, 0, none, 0, rfl, Nat.le_of_lt hlt, by rw [hw]; rfl, by rw [hw]; rfl, by rw [hw]; rfl, by rw [hw]; rfl, by rw [hw]; rfl, ⟨by decide, by decide⟩, ⟨by decide, by decide⟩, by decide, ExsV.nil _ _, FlsV.nil _ _⟩
set_option maxRecDepth 100000 in
set_option maxHeartbeats 1600000 in
theorem Forked_any (w : World) : Calls Try.prog 13 #[] w fun e w' => ∃ a c, e = .returned (.agg #[.string ⟨#[102]⟩, .slice a 6 c]) ∧ DfV w' (fun g => w.heap.size ≤ g) forkedD a c ∧ Below w.heap.size w w' := by
  have H1 : Hid (∀ (wX : World) (q : Nat), q = wX.heap.size → Calls Try.prog 26 #[.slice (some ⟨q, 0, none⟩) 1 1] (wX.alloc (.cells #[.int .i64 1] 3)) fun e w' => ∃ a c, e = .returned (.slice a 1 c) ∧ FlsV w' (fun g => wX.heap.size ≤ g) (.slice a 1 c) ([1].map toF) ∧ Below wX.heap.size wX w') := fun wX q hq => outs_row wX _ [1] q hq (rowN_one wX 1) (by decide) (by decide)
  have H2 : Hid (∀ (wX : World) (q : Nat), q = wX.heap.size → Calls Try.prog 26 #[.slice (some ⟨q, 0, none⟩) 2 2] (wX.alloc (.cells #[.int .i64 2, .int .i64 3] 3)) fun e w' => ∃ a c, e = .returned (.slice a 2 c) ∧ FlsV w' (fun g => wX.heap.size ≤ g) (.slice a 2 c) ([2, 3].map toF) ∧ Below wX.heap.size wX w') := fun wX q hq => outs_row wX _ [2, 3] q hq (rowN_two wX 2 3) (by decide) (by decide)
  have H3 : Hid (∀ (wX : World) (q : Nat), q = wX.heap.size → Calls Try.prog 26 #[.slice (some ⟨q, 0, none⟩) 1 1] (wX.alloc (.cells #[.int .i64 4] 3)) fun e w' => ∃ a c, e = .returned (.slice a 1 c) ∧ FlsV w' (fun g => wX.heap.size ≤ g) (.slice a 1 c) ([4].map toF) ∧ Below wX.heap.size wX w') := fun wX q hq => outs_row wX _ [4] q hq (rowN_one wX 4) (by decide) (by decide)
  have H4 : Hid (∀ (wX : World) (q : Nat), q = wX.heap.size → Calls Try.prog 26 #[.slice (some ⟨q, 0, none⟩) 1 1] (wX.alloc (.cells #[.int .i64 4] 3)) fun e w' => ∃ a c, e = .returned (.slice a 1 c) ∧ FlsV w' (fun g => wX.heap.size ≤ g) (.slice a 1 c) ([4].map toF) ∧ Below wX.heap.size wX w') := fun wX q hq => outs_row wX _ [4] q hq (rowN_one wX 4) (by decide) (by decide)
  have H5 : Hid (∀ (wX : World) (q : Nat), q = wX.heap.size → Calls Try.prog 26 #[.slice (some ⟨q, 0, none⟩) 1 1] (wX.alloc (.cells #[.int .i64 5] 3)) fun e w' => ∃ a c, e = .returned (.slice a 1 c) ∧ FlsV w' (fun g => wX.heap.size ≤ g) (.slice a 1 c) ([5].map toF) ∧ Below wX.heap.size wX w') := fun wX q hq => outs_row wX _ [5] q hq (rowN_one wX 5) (by decide) (by decide)
  have hB0 : Below w.heap.size w (w.alloc (.cells #[.string ⟨#[]⟩, .slice none 0 0] 24)) := (Below.refl _ _).alloc (Nat.le_refl _) _
  have G0 : Hid (Below w.heap.size w (w.alloc (.cells #[.string ⟨#[]⟩, .slice none 0 0] 24)) ∧ Cell2 (w.alloc (.cells #[.string ⟨#[]⟩, .slice none 0 0] 24)) w.heap.size (.string ⟨#[]⟩) (.slice none 0 0)) := ⟨hB0, Cell2.new w _ _ 24⟩
  clear hB0
  go_enter Try.func13, Try.ntmps13
  go_wp2_with (first
    | (go_at_call 26; have := G4; refine (H5.out _ _ rfl).mono ?_; rintro e w5 ⟨a5, c5, rfl, q1, q2⟩; have G5 : Hid (Below w.heap.size w w5 ∧ Cell2 w5 w.heap.size (.string ⟨#[]⟩) (.slice none 0 0) ∧ FlsV w5 (fun g => w.heap.size < g) (.slice a1 1 c1) ([1].map toF) ∧ FlsV w5 (fun g => w.heap.size < g) (.slice a2 2 c2) ([2, 3].map toF) ∧ FlsV w5 (fun g => w.heap.size < g) (.slice a3 1 c3) ([4].map toF) ∧ FlsV w5 (fun g => w.heap.size < g) (.slice a4 1 c4) ([4].map toF) ∧ FlsV w5 (fun g => w.heap.size < g) (.slice a5 1 c5) ([5].map toF)) := ⟨G4.out.1.trans (q2.mono G4.out.1.size), G4.out.2.1.below q2, G4.out.2.2.1.kept (kept_below q2), G4.out.2.2.2.1.kept (kept_below q2), G4.out.2.2.2.2.1.kept (kept_below q2), G4.out.2.2.2.2.2.kept (kept_below q2), q1.kept (kept_sub fun g hg => Nat.lt_of_lt_of_le G4.out.2.1.lt hg)⟩; clear q1 q2 G4; obtain ⟨k0, k1, k2⟩ := G5.out.2.1; have hl5 := World.block_lt_of_cell? _ _ k0)
    | (go_at_call 26; have := G3; refine (H4.out _ _ rfl).mono ?_; rintro e w4 ⟨a4, c4, rfl, q1, q2⟩; have G4 : Hid (Below w.heap.size w w4 ∧ Cell2 w4 w.heap.size (.string ⟨#[]⟩) (.slice none 0 0) ∧ FlsV w4 (fun g => w.heap.size < g) (.slice a1 1 c1) ([1].map toF) ∧ FlsV w4 (fun g => w.heap.size < g) (.slice a2 2 c2) ([2, 3].map toF) ∧ FlsV w4 (fun g => w.heap.size < g) (.slice a3 1 c3) ([4].map toF) ∧ FlsV w4 (fun g => w.heap.size < g) (.slice a4 1 c4) ([4].map toF)) := ⟨G3.out.1.trans (q2.mono G3.out.1.size), G3.out.2.1.below q2, G3.out.2.2.1.kept (kept_below q2), G3.out.2.2.2.1.kept (kept_below q2), G3.out.2.2.2.2.kept (kept_below q2), q1.kept (kept_sub fun g hg => Nat.lt_of_lt_of_le G3.out.2.1.lt hg)⟩; clear q1 q2 G3)
    | (go_at_call 26; have := G2; refine (H3.out _ _ rfl).mono ?_; rintro e w3 ⟨a3, c3, rfl, q1, q2⟩; have G3 : Hid (Below w.heap.size w w3 ∧ Cell2 w3 w.heap.size (.string ⟨#[]⟩) (.slice none 0 0) ∧ FlsV w3 (fun g => w.heap.size < g) (.slice a1 1 c1) ([1].map toF) ∧ FlsV w3 (fun g => w.heap.size < g) (.slice a2 2 c2) ([2, 3].map toF) ∧ FlsV w3 (fun g => w.heap.size < g) (.slice a3 1 c3) ([4].map toF)) := ⟨G2.out.1.trans (q2.mono G2.out.1.size), G2.out.2.1.below q2, G2.out.2.2.1.kept (kept_below q2), G2.out.2.2.2.kept (kept_below q2), q1.kept (kept_sub fun g hg => Nat.lt_of_lt_of_le G2.out.2.1.lt hg)⟩; clear q1 q2 G2)
    | (go_at_call 26; have := G1; refine (H2.out _ _ rfl).mono ?_; rintro e w2 ⟨a2, c2, rfl, q1, q2⟩; have G2 : Hid (Below w.heap.size w w2 ∧ Cell2 w2 w.heap.size (.string ⟨#[]⟩) (.slice none 0 0) ∧ FlsV w2 (fun g => w.heap.size < g) (.slice a1 1 c1) ([1].map toF) ∧ FlsV w2 (fun g => w.heap.size < g) (.slice a2 2 c2) ([2, 3].map toF)) := ⟨G1.out.1.trans (q2.mono G1.out.1.size), G1.out.2.1.below q2, G1.out.2.2.kept (kept_below q2), q1.kept (kept_sub fun g hg => Nat.lt_of_lt_of_le G1.out.2.1.lt hg)⟩; clear q1 q2 G1)
    | (go_at_call 26; have := G0; refine (H1.out _ _ (by rw [size_alloc])).mono ?_; rintro e w1 ⟨a1, c1, rfl, q1, q2⟩; have G1 : Hid (Below w.heap.size w w1 ∧ Cell2 w1 w.heap.size (.string ⟨#[]⟩) (.slice none 0 0) ∧ FlsV w1 (fun g => w.heap.size < g) (.slice a1 1 c1) ([1].map toF)) := ⟨G0.out.1.trans (q2.mono G0.out.1.size), G0.out.2.below q2, q1.kept (kept_sub fun g hg => Nat.lt_of_lt_of_le G0.out.2.lt hg)⟩; clear q1 q2 G0))
  obtain ⟨hcc, hD, hB⟩ := forked_end G5.out.1 G5.out.2.1 G5.out.2.2.1 G5.out.2.2.2.1 G5.out.2.2.2.2.1 G5.out.2.2.2.2.2.1 G5.out.2.2.2.2.2.2 rfl
  refine bodyPost_ret (v := .agg #[.string ⟨#[102]⟩, .slice (some ⟨w5.heap.size, 0, none⟩) 6 6]) (by simp [results, Try.results13, go_sem, hcc.c0, hcc.c1]) rfl ⟨_, _, rfl, hD, hB⟩
end
end Go.Proofs.Ytlaiacjlphjmlaa
