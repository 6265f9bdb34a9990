/-
  The program's flow, place: contracts.
-/
import Derived.Test.YtjafjheffbbkmaaRdF
namespace Go.Proofs.Ytjafjheffbbkmaa
section
open Go.RowKit
set_option linter.unusedVariables false

theorem Cell2.fr {w w' : World} {rb b : Nat} {v0 v1 : Value} (h : Cell2 w b v0 v1) (hf : Fr rb w w') (hb : b ≠ rb) : Cell2 w' b v0 v1 := h.kept (hf.block b h.lt hb)
theorem Cell5.fr {w w' : World} {rb b : Nat} {v0 v1 v2 v3 v4 : Value} (h : Cell5 w b v0 v1 v2 v3 v4) (hf : Fr rb w w') (hb : b ≠ rb) : Cell5 w' b v0 v1 v2 v3 v4 := h.kept (hf.block b h.lt hb)
theorem Cell2.put {w : World} {b : Nat} {v0 v1 : Value} (h : Cell2 w b v0 v1) (j : Nat) (x : Value) : Cell2 (w.setCell ⟨b, j, none⟩ x) b (if j = 0 then x else v0) (if j = 1 then x else v1) :=
  ⟨cell_set h.c0, cell_set h.c1, fun i => by simp only [World.frozen?_setCell]; exact h.free i⟩
theorem Cell5.put {w : World} {b : Nat} {v0 v1 v2 v3 v4 : Value} (h : Cell5 w b v0 v1 v2 v3 v4) (j : Nat) (x : Value) : Cell5 (w.setCell ⟨b, j, none⟩ x) b (if j = 0 then x else v0) (if j = 1 then x else v1) (if j = 2 then x else v2) (if j = 3 then x else v3) (if j = 4 then x else v4) :=
  ⟨cell_set h.c0, cell_set h.c1, cell_set h.c2, cell_set h.c3, cell_set h.c4, fun i => by simp only [World.frozen?_setCell]; exact h.free i⟩
theorem Cell2.far {w : World} {b : Nat} {v0 v1 : Value} (h : Cell2 w b v0 v1) {p : Addr} (hp : b ≠ p.block) (x : Value) : Cell2 (w.setCell p x) b v0 v1 := h.kept (Below.heap_setCell w p x b hp)
theorem Cell5.far {w : World} {b : Nat} {v0 v1 v2 v3 v4 : Value} (h : Cell5 w b v0 v1 v2 v3 v4) {p : Addr} (hp : b ≠ p.block) (x : Value) : Cell5 (w.setCell p x) b v0 v1 v2 v3 v4 := h.kept (Below.heap_setCell w p x b hp)
theorem Cell2.alloc {w : World} {b : Nat} {v0 v1 : Value} (h : Cell2 w b v0 v1) (o : Obj) : Cell2 (w.alloc o) b v0 v1 := h.below ((Below.refl _ _).alloc (Nat.le_refl _) o)
theorem Cell5.alloc {w : World} {b : Nat} {v0 v1 v2 v3 v4 : Value} (h : Cell5 w b v0 v1 v2 v3 v4) (o : Obj) : Cell5 (w.alloc o) b v0 v1 v2 v3 v4 := h.below ((Below.refl _ _).alloc (Nat.le_refl _) o)
theorem Cell2.second (w : World) (o : Obj) (v0 v1 : Value) (t : TypeId) : Cell2 ((w.alloc o).alloc (.cells #[v0, v1] t)) (w.heap.size + 1) v0 v1 := by
  have := Cell2.new (w.alloc o) v0 v1 t
  rw [size_alloc] at this
  exact this
theorem Cell5.second (w : World) (o : Obj) (v0 v1 v2 v3 v4 : Value) (t : TypeId) : Cell5 ((w.alloc o).alloc (.cells #[v0, v1, v2, v3, v4] t)) (w.heap.size + 1) v0 v1 v2 v3 v4 := by
  have := Cell5.new (w.alloc o) v0 v1 v2 v3 v4 t
  rw [size_alloc] at this
  exact this
theorem two_other {w : World} {M o g : Nat} {u0 u1 : Value} (hg : g ≠ M) : ((w.setCell ⟨M, o, none⟩ u0).setCell ⟨M, o + 1, none⟩ u1).heap[g]? = w.heap[g]? := by
  rw [Below.heap_setCell _ _ _ _ hg, Below.heap_setCell _ _ _ _ hg]
theorem two_rst {w : World} {rb M o : Nat} {s : Sst} {u0 u1 : Value} (h : Rst w rb s) (hM : rb < M) : Rst ((w.setCell ⟨M, o, none⟩ u0).setCell ⟨M, o + 1, none⟩ u1) rb s := h.kept fun k hk => two_other (by omega)
theorem two_fr {rb : Nat} {a w : World} {M o : Nat} {u0 u1 : Value} (h : Fr rb a w) (hM : a.heap.size ≤ M) : Fr rb a ((w.setCell ⟨M, o, none⟩ u0).setCell ⟨M, o + 1, none⟩ u1) :=
  (h.setCell (p := ⟨M, o, none⟩) (.inr hM) _).setCell (p := ⟨M, o + 1, none⟩) (.inr hM) _
theorem five_other {w : World} {M o g : Nat} {u0 u1 u2 u3 u4 : Value} (hg : g ≠ M) : (((((w.setCell ⟨M, o, none⟩ u0).setCell ⟨M, o + 1, none⟩ u1).setCell ⟨M, o + 2, none⟩ u2).setCell ⟨M, o + 3, none⟩ u3).setCell ⟨M, o + 4, none⟩ u4).heap[g]? = w.heap[g]? := by
  rw [Below.heap_setCell _ _ _ _ hg, Below.heap_setCell _ _ _ _ hg, Below.heap_setCell _ _ _ _ hg, Below.heap_setCell _ _ _ _ hg, Below.heap_setCell _ _ _ _ hg]
theorem five_rst {w : World} {rb M o : Nat} {s : Sst} {u0 u1 u2 u3 u4 : Value} (h : Rst w rb s) (hM : rb < M) : Rst (((((w.setCell ⟨M, o, none⟩ u0).setCell ⟨M, o + 1, none⟩ u1).setCell ⟨M, o + 2, none⟩ u2).setCell ⟨M, o + 3, none⟩ u3).setCell ⟨M, o + 4, none⟩ u4) rb s := h.kept fun k hk => five_other (by omega)
theorem five_fr {rb : Nat} {a w : World} {M o : Nat} {u0 u1 u2 u3 u4 : Value} (h : Fr rb a w) (hM : a.heap.size ≤ M) : Fr rb a (((((w.setCell ⟨M, o, none⟩ u0).setCell ⟨M, o + 1, none⟩ u1).setCell ⟨M, o + 2, none⟩ u2).setCell ⟨M, o + 3, none⟩ u3).setCell ⟨M, o + 4, none⟩ u4) :=
  ((((h.setCell (p := ⟨M, o, none⟩) (.inr hM) _).setCell (p := ⟨M, o + 1, none⟩) (.inr hM) _).setCell (p := ⟨M, o + 2, none⟩) (.inr hM) _).setCell (p := ⟨M, o + 3, none⟩) (.inr hM) _).setCell (p := ⟨M, o + 4, none⟩) (.inr hM) _
/-- A flow that was read. -/
def FlowP (rb : Nat) (s : Sst) (w : World) (e : Ending) (w' : World) : Prop := ∃ f s' to a l c, e = .returned (.agg #[.int .i64 to, .slice a l c]) ∧ flowR w' (fun g => w.heap.size ≤ g) [.int .i64 to, .slice a l c] f ∧ After flowE s f s' ∧ Rst w' rb s' ∧ Fr rb w w'
/-- Two blocks of two cells: the result's, and the flow's. -/
structure F2 (w wr : World) (rb : Nat) (s : Sst) (v0 v1 : Value) : Prop where
  fr : Fr rb w wr
  rst : Rst wr rb s
  r : Cell2 wr w.heap.size (.int .i64 0) (.slice none 0 0)
  f : Cell2 wr (w.heap.size + 1) v0 v1
theorem F2.then {w wr w3 : World} {rb : Nat} {s s3 : Sst} {v0 v1 : Value} (h : F2 w wr rb s v0 v1) (hl : rb < w.heap.size) (hr : Rst w3 rb s3) (hf : Fr rb wr w3) : F2 w w3 rb s3 v0 v1 := ⟨h.fr.trans hf, hr, h.r.fr hf (by omega), h.f.fr hf (by omega)⟩
theorem F2.set {w wr : World} {rb : Nat} {s : Sst} {v0 v1 : Value} (h : F2 w wr rb s v0 v1) (hl : rb < w.heap.size) (j : Nat) (x : Value) : F2 w (wr.setCell ⟨w.heap.size + 1, j, none⟩ x) rb s (if j = 0 then x else v0) (if j = 1 then x else v1) :=
  ⟨h.fr.setCell (p := ⟨w.heap.size + 1, j, none⟩) (.inr (Nat.le_succ _)) _, h.rst.set (p := ⟨w.heap.size + 1, j, none⟩) (by show rb < w.heap.size + 1; omega) _, h.r.far (by show w.heap.size ≠ w.heap.size + 1; omega) _, h.f.put j x⟩
set_option maxRecDepth 100000 in
set_option maxHeartbeats 400000 in
theorem flow_any (rb : Nat) (s : Sst) (w : World) (hR : Rst w rb s) : Calls Try.prog 102 #[.pointer (some ⟨rb, 0, none⟩)] w (FlowP rb s w) := by
  have hlt := hR.lt
  have HN : Hid (∀ o o2, Calls Try.prog 80 #[.pointer (some ⟨rb, 0, none⟩), .int .u64 4096] ((w.alloc o).alloc o2) fun e w' => ∃ x s', (e = .returned (.int .i64 (x : Nat)) ∧ x ≤ 4096) ∧ After (uintE 4096) s x s' ∧ Rst w' rb s' ∧ Fr rb ((w.alloc o).alloc o2) w') := fun o o2 => number_any rb 4096 s _ (by decide) ((hR.alloc o).alloc o2)
  have HT : Hid (∀ s1 w1, Rst w1 rb s1 → Calls Try.prog 101 #[.pointer (some ⟨rb, 0, none⟩)] w1 (TreesP rb s1 w1)) := fun s1 w1 q => trees_any rb s1 w1 q
  have H0 : Hid (F2 w ((w.alloc (.cells #[.int .i64 0, .slice none 0 0] 75)).alloc (.cells #[.int .i64 0, .slice none 0 0] 75)) rb s (.int .i64 0) (.slice none 0 0)) := ⟨((Fr.refl _ _).alloc _).alloc _, (hR.alloc _).alloc _, (Cell2.new w _ _ 75).alloc _, Cell2.second w _ _ _ 75⟩
  clear hR
  go_enter Try.func102, Try.ntmps102
  go_wp2_with (first
    | (go_at_call 101; have := H1; refine (HT.out _ _ H1.out.1.rst).mono ?_; rintro e w4 ⟨ts, s2, ta, tc, rfl, qx, ql, qa, q1, q2⟩; have H2 : Hid (F2 w w4 rb s2 (.int .i64 (x : Nat)) (.slice none 0 0) ∧ ExsV w4 (fun g => w.heap.size + 2 ≤ g) (.slice ta ts.length tc) ts ∧ After flowE s ⟨(x : Nat), ts⟩ s2) := ⟨H1.out.1.then hlt q1 q2, qx.kept (kept_sub fun g hg => Nat.le_trans H1.out.1.f.lt hg), H1.out.2.bind (qa.bind (After.pure _ _))⟩; have H3 : Hid (F2 w (w4.setCell ⟨w.heap.size + 1, 1, none⟩ (.slice ta ts.length tc)) rb s2 (.int .i64 (x : Nat)) (.slice ta ts.length tc)) := H2.out.1.set hlt 1 _; obtain ⟨f0, f1, f2⟩ := H2.out.1.f; obtain ⟨z0, z1, z2⟩ := H2.out.1.r; have hlf := World.block_lt_of_cell? _ _ f0; clear qx ql qa q1 q2 H1)
    | (go_at_call 80; refine (HN.out _ _).mono ?_; rintro e w2 ⟨x, s1, ⟨rfl, hx⟩, qa, q1, q2⟩; have h2 : F2 w w2 rb s1 (.int .i64 0) (.slice none 0 0) := H0.out.then hlt q1 q2; have H1 : Hid (F2 w (w2.setCell ⟨w.heap.size + 1, 0, none⟩ (.int .i64 (x : Nat))) rb s1 (.int .i64 (x : Nat)) (.slice none 0 0) ∧ After (uintE 4096) s x s1) := ⟨h2.set hlt 0 _, qa⟩; obtain ⟨f0, f1, f2⟩ := h2.f; have hlf := World.block_lt_of_cell? _ _ f0; clear qa q1 q2 h2))
  generalize hl : ts.length = tl at *
  refine bodyPost_ret (v := .agg #[.int .i64 (x : Nat), .slice ta tl tc]) (by simp [results, Try.results102, go_sem, z0, z1]) rfl ⟨⟨(x : Nat), ts⟩, s2, _, _, _, _, rfl, ⟨ta, tc, by rw [← hl], ?_, ⟨by show _ ≤ ((x : Nat) : Int); omega, by show ((x : Nat) : Int) ≤ _; omega⟩⟩, H2.out.2.2, two_rst (o := 0) H3.out.rst hlt, two_fr (o := 0) H3.out.fr (Nat.le_refl _)⟩
  have hE := H2.out.2.1
  rw [← hl] at hE
  exact hE.kept fun g hg _ => ⟨(two_other (M := w.heap.size) (o := 0) (by omega)).trans (Below.heap_setCell _ _ _ _ (by show g ≠ w.heap.size + 1; omega)), by omega⟩
end
section
open Go.RowKit
set_option linter.unusedVariables false

/-- A place that was read. -/
def PlaceP (rb : Nat) (s : Sst) (w : World) (e : Ending) (w' : World) : Prop := ∃ p s' k str n a l c qa ql qc, e = .returned (.agg #[.int .i64 k, .string str, .int .i64 n, .slice a l c, .slice qa ql qc]) ∧ placeR w' (fun g => w.heap.size ≤ g) [.int .i64 k, .string str, .int .i64 n, .slice a l c, .slice qa ql qc] p ∧ After placeE s p s' ∧ Rst w' rb s' ∧ Fr rb w w'
/-- Two blocks of five cells: the result's, and the place's. -/
structure P5 (w wr : World) (rb : Nat) (s : Sst) (v0 v1 v2 v3 v4 : Value) : Prop where
  fr : Fr rb w wr
  rst : Rst wr rb s
  r : Cell5 wr w.heap.size (.int .i64 0) (.string ⟨#[]⟩) (.int .i64 0) (.slice none 0 0) (.slice none 0 0)
  p : Cell5 wr (w.heap.size + 1) v0 v1 v2 v3 v4
theorem P5.then {w wr w3 : World} {rb : Nat} {s s3 : Sst} {v0 v1 v2 v3 v4 : Value} (h : P5 w wr rb s v0 v1 v2 v3 v4) (hl : rb < w.heap.size) (hr : Rst w3 rb s3) (hf : Fr rb wr w3) : P5 w w3 rb s3 v0 v1 v2 v3 v4 := ⟨h.fr.trans hf, hr, h.r.fr hf (by omega), h.p.fr hf (by omega)⟩
theorem P5.set {w wr : World} {rb : Nat} {s : Sst} {v0 v1 v2 v3 v4 : Value} (h : P5 w wr rb s v0 v1 v2 v3 v4) (hl : rb < w.heap.size) (j : Nat) (x : Value) : P5 w (wr.setCell ⟨w.heap.size + 1, j, none⟩ x) rb s (if j = 0 then x else v0) (if j = 1 then x else v1) (if j = 2 then x else v2) (if j = 3 then x else v3) (if j = 4 then x else v4) :=
  ⟨h.fr.setCell (p := ⟨w.heap.size + 1, j, none⟩) (.inr (Nat.le_succ _)) _, h.rst.set (p := ⟨w.heap.size + 1, j, none⟩) (by show rb < w.heap.size + 1; omega) _, h.r.far (by show w.heap.size ≠ w.heap.size + 1; omega) _, h.p.put j x⟩
/-- What lies where while the flows are read. -/
structure Pw (w wr : World) (rb B : Nat) (s : Sst) (k str n : Value) (ar : List Tr) (aa : Option Addr) (ca : Nat) (kv : Value) (ts : List Fl) : Prop where
  five : P5 w wr rb s k str n (.slice aa ar.length ca) kv
  lo : w.heap.size + 2 ≤ B
  hi : B ≤ wr.heap.size
  arg : ExsV wr (fun g => w.heap.size + 2 ≤ g ∧ g < B) (.slice aa ar.length ca) ar
  kin : Gw flowR 75 2 wr B kv ts
theorem Pw.then {w wr w3 : World} {rb B : Nat} {s s3 : Sst} {k str n kv : Value} {ar : List Tr} {aa : Option Addr} {ca : Nat} {ts : List Fl} (h : Pw w wr rb B s k str n ar aa ca kv ts) (hl : rb < w.heap.size) (hr : Rst w3 rb s3) (hf : Fr rb wr w3) : Pw w w3 rb B s3 k str n ar aa ca kv ts :=
  have h2 := h.lo
  ⟨h.five.then hl hr hf, h.lo, Nat.le_trans h.hi hf.size, h.arg.kept (kept_fr hf fun g hg => ⟨by omega, hg⟩), h.kin.fr flowR_kept hf (by omega)⟩
theorem Pw.drew {w wr : World} {rb B : Nat} {s : Sst} {k str n kv : Value} {ar : List Tr} {aa : Option Addr} {ca : Nat} {ts : List Fl} (h : Pw w wr rb B s k str n ar aa ca kv ts) (hl : rb < w.heap.size) : Pw w wr.drew rb B s k str n ar aa ca kv ts :=
  h.then hl (h.five.rst.kept fun _ _ => rfl) (.of_below (Below.drew (Below.refl _ _)))
theorem Pw.next {w w3 w5 : World} {rb B : Nat} {s : Sst} {k str n kv v5 : Value} {ar : List Tr} {aa : Option Addr} {ca : Nat} {ts ts' : List Fl} {o : Obj} (h : Pw w w3 rb B s k str n ar aa ca kv ts) (hl : rb < w.heap.size) (h5 : Gw flowR 75 2 w5 B v5 ts') (hg : (w3.alloc o).grownBy w5 kv.ownBlock) :
    Cell5 w5 (w.heap.size + 1) k str n (.slice aa ar.length ca) kv ∧ Pw w (w5.setCell ⟨w.heap.size + 1, 4, none⟩ v5) rb B s k str n ar aa ca v5 ts' := by
  have hs := h.hi
  have h2 := h.lo
  have hB : Below B w3 w5 := ((Below.refl _ _).alloc hs _).grown hg (Nat.le_trans hs (le_alloc _ _)) h.kin.own
  have h51 : P5 w w5 rb s k str n (.slice aa ar.length ca) kv := ⟨⟨hB.os.trans h.five.fr.os, hB.tape.trans h.five.fr.tape, hB.output.trans h.five.fr.output, Nat.le_trans h.five.fr.size hB.size, fun q hq hne => (hB.block q (by omega)).trans (h.five.fr.block q hq hne)⟩, h.five.rst.below hB (by omega), h.five.r.kept (hB.block _ (by omega)), h.five.p.kept (hB.block _ (by omega))⟩
  refine ⟨h51.p, h51.set hl 4 v5, h.lo, ?_, ?_, h5.set flowR_kept (by show w.heap.size + 1 < B; omega) _⟩
  · show B ≤ (w5.setCell _ _).heap.size
    simp [World.setCell]; exact Nat.le_trans hs hB.size
  · exact h.arg.kept fun g hg2 hlt => ⟨(Below.heap_setCell _ _ _ _ (by show g ≠ w.heap.size + 1; omega)).trans (hB.block g hg2.2), hg2⟩
theorem Pw.out {w wr : World} {rb B : Nat} {s : Sst} {k n : Int} {nm : Bs} {kv : Value} {ar : List Tr} {aa : Option Addr} {ca : Nat} {ts : List Fl} (h : Pw w wr rb B s (.int .i64 k) (.string (ba nm)) (.int .i64 n) ar aa ca kv ts) {ao : Option Addr} {co : Nat} (hv : kv = .slice ao ts.length co) (hk : InR k) (hn : InR n) (hm : nm.length ≤ 9223372036854775807) (ht : ts.length ≤ 16) : PlV wr (fun g => w.heap.size + 2 ≤ g) ⟨k, nm, n, ar, ts⟩ aa ca ao co :=
  ⟨hk, hn, hm, h.arg.kept (kept_sub fun g hg => hg.1), by
    have := h.kin.flows (by omega)
    rw [hv] at this
    exact this.kept (kept_sub fun g hg => Nat.le_trans h.lo hg)⟩
set_option maxRecDepth 100000 in
set_option maxHeartbeats 1600000 in
theorem place_any (rb : Nat) (s : Sst) (w : World) (hR : Rst w rb s) : Calls Try.prog 81 #[.pointer (some ⟨rb, 0, none⟩)] w (PlaceP rb s w) := by
  have hlt := hR.lt
  have HB : Hid (∀ o o2, Calls Try.prog 91 #[.pointer (some ⟨rb, 0, none⟩), .func (.func 92) #[] #[]] ((w.alloc o).alloc o2) fun e w' => e = .returned (.int .u8 (hdS s : Nat)) ∧ Rst w' rb (tlS s) ∧ Fr rb ((w.alloc o).alloc o2) w') := fun o o2 => takeByte_det rb s _ ((hR.alloc o).alloc o2)
  have HX : Hid (∀ s1 w1, Rst w1 rb s1 → Calls Try.prog 79 #[.pointer (some ⟨rb, 0, none⟩)] w1 fun e w' => ∃ x s', e = .returned (.string (ba (bn x))) ∧ x.length ≤ 9223372036854775807 ∧ After textE s1 x s' ∧ Rst w' rb s' ∧ Fr rb w1 w') := fun s1 w1 q => text_any rb s1 w1 q
  have HN9 : Hid (∀ s1 w1, Rst w1 rb s1 → Calls Try.prog 80 #[.pointer (some ⟨rb, 0, none⟩), .int .u64 9] w1 fun e w' => ∃ x s', (e = .returned (.int .i64 (x : Nat)) ∧ x ≤ 9) ∧ After (uintE 9) s1 x s' ∧ Rst w' rb s' ∧ Fr rb w1 w') := fun s1 w1 q => number_any rb 9 s1 w1 (by decide) q
  have HN16 : Hid (∀ s1 w1, Rst w1 rb s1 → Calls Try.prog 80 #[.pointer (some ⟨rb, 0, none⟩), .int .u64 16] w1 fun e w' => ∃ x s', (e = .returned (.int .i64 (x : Nat)) ∧ x ≤ 16) ∧ After (uintE 16) s1 x s' ∧ Rst w' rb s' ∧ Fr rb w1 w') := fun s1 w1 q => number_any rb 16 s1 w1 (by decide) q
  have HT : Hid (∀ s1 w1, Rst w1 rb s1 → Calls Try.prog 101 #[.pointer (some ⟨rb, 0, none⟩)] w1 (TreesP rb s1 w1)) := fun s1 w1 q => trees_any rb s1 w1 q
  have HFl : Hid (∀ s1 w1, Rst w1 rb s1 → Calls Try.prog 102 #[.pointer (some ⟨rb, 0, none⟩)] w1 (FlowP rb s1 w1)) := fun s1 w1 q => flow_any rb s1 w1 q
  have HA0 : Hid (After byteE s (hdS s) (tlS s)) := after_byte hR.nil
  have H0 : Hid (P5 w ((w.alloc (.cells #[.int .i64 0, .string ⟨#[]⟩, .int .i64 0, .slice none 0 0, .slice none 0 0] 57)).alloc (.cells #[.int .i64 0, .string ⟨#[]⟩, .int .i64 0, .slice none 0 0, .slice none 0 0] 57)) rb s (.int .i64 0) (.string ⟨#[]⟩) (.int .i64 0) (.slice none 0 0) (.slice none 0 0)) := ⟨((Fr.refl _ _).alloc _).alloc _, (hR.alloc _).alloc _, (Cell5.new w _ _ _ _ _ 57).alloc _, Cell5.second w _ _ _ _ _ _ 57⟩
  have hm := hd_lt s
  have HKi : Hid (InR (hdS s)) := ⟨by omega, by omega⟩
  clear hR
  generalize tlS s = s1 at *
  generalize hdS s = m at *
  go_enter Try.func81, Try.ntmps81
  go_wp2_with (first
    | (go_at_call 80; have := H4; refine (HN16.out _ _ H4.out.1.rst).mono ?_; rintro e w6 ⟨N, s5, ⟨rfl, hN⟩, qa, q1, q2⟩; have H5 : Hid (P5 w w6 rb s5 (.int .i64 m) (.string (ba (bn st))) (.int .i64 (nn : Nat)) (.slice ta ts.length tc) (.slice none 0 0) ∧ ExsV w6 (fun g => w.heap.size + 2 ≤ g ∧ g < w6.heap.size) (.slice ta ts.length tc) ts ∧ st.length ≤ 9223372036854775807 ∧ After textE s1 st s2 ∧ After (uintE 9) s2 nn s3 ∧ After maybeE s3 ts s4 ∧ After (uintE 16) s4 N s5) := ⟨H4.out.1.then hlt q1 q2, (H4.out.2.1.kept (kept_fr q2 fun g hg => ⟨by omega, hg⟩)).kept (fun g hg hl => ⟨rfl, hg, hl⟩), H4.out.2.2.1, H4.out.2.2.2.1, H4.out.2.2.2.2.1, H4.out.2.2.2.2.2, qa⟩; clear qa q1 q2 H4)
    | (go_at_call 101; have := H3; refine (HT.out _ _ H3.out.1.rst).mono ?_; rintro e w5 ⟨ts, s4, ta, tc, rfl, qx, ql, qa, q1, q2⟩; have h4 := H3.out.1.then hlt q1 q2; have H4 : Hid (P5 w (w5.setCell ⟨w.heap.size + 1, 3, none⟩ (.slice ta ts.length tc)) rb s4 (.int .i64 m) (.string (ba (bn st))) (.int .i64 (nn : Nat)) (.slice ta ts.length tc) (.slice none 0 0) ∧ ExsV (w5.setCell ⟨w.heap.size + 1, 3, none⟩ (.slice ta ts.length tc)) (fun g => w.heap.size + 2 ≤ g) (.slice ta ts.length tc) ts ∧ st.length ≤ 9223372036854775807 ∧ After textE s1 st s2 ∧ After (uintE 9) s2 nn s3 ∧ After maybeE s3 ts s4) := ⟨h4.set hlt 3 _, (qx.kept (kept_sub fun g hg => Nat.le_trans H3.out.1.p.lt hg)).kept (fun g hg _ => ⟨Below.heap_setCell _ _ _ _ (Nat.ne_of_gt hg), hg⟩), H3.out.2.1, H3.out.2.2.1, H3.out.2.2.2, qa⟩; obtain ⟨p0, p1, p2, p3, p4, p5⟩ := h4.p; have hlp := World.block_lt_of_cell? _ _ p0; clear qx ql qa q1 q2 h4 H3)
    | (go_at_call 80; have := H2; refine (HN9.out _ _ H2.out.1.rst).mono ?_; rintro e w4 ⟨nn, s3, ⟨rfl, hnn⟩, qa, q1, q2⟩; have h3 := H2.out.1.then hlt q1 q2; have H3 : Hid (P5 w (w4.setCell ⟨w.heap.size + 1, 2, none⟩ (.int .i64 (nn : Nat))) rb s3 (.int .i64 m) (.string (ba (bn st))) (.int .i64 (nn : Nat)) (.slice none 0 0) (.slice none 0 0) ∧ st.length ≤ 9223372036854775807 ∧ After textE s1 st s2 ∧ After (uintE 9) s2 nn s3) := ⟨h3.set hlt 2 _, H2.out.2.1, H2.out.2.2, qa⟩; obtain ⟨p0, p1, p2, p3, p4, p5⟩ := h3.p; have hlp := World.block_lt_of_cell? _ _ p0; clear qa q1 q2 h3 H2)
    | (go_at_call 79; have := H1; refine (HX.out _ _ H1.out.rst).mono ?_; rintro e w3 ⟨st, s2, rfl, hst, qa, q1, q2⟩; have h2 := H1.out.then hlt q1 q2; have H2 : Hid (P5 w (w3.setCell ⟨w.heap.size + 1, 1, none⟩ (.string (ba (bn st)))) rb s2 (.int .i64 m) (.string (ba (bn st))) (.int .i64 0) (.slice none 0 0) (.slice none 0 0) ∧ st.length ≤ 9223372036854775807 ∧ After textE s1 st s2) := ⟨h2.set hlt 1 _, hst, qa⟩; obtain ⟨p0, p1, p2, p3, p4, p5⟩ := h2.p; have hlp := World.block_lt_of_cell? _ _ p0; clear qa q1 q2 h2 H1 hst)
    | (go_at_call 91; refine (HB.out _ _).mono ?_; rintro e w2 ⟨rfl, q1, q2⟩; have h1 := H0.out.then hlt q1 q2; have H1 : Hid (P5 w (w2.setCell ⟨w.heap.size + 1, 0, none⟩ (.int .i64 m)) rb s1 (.int .i64 m) (.string ⟨#[]⟩) (.int .i64 0) (.slice none 0 0) (.slice none 0 0)) := h1.set hlt 0 _; obtain ⟨p0, p1, p2, p3, p4, p5⟩ := h1.p; have hlp := World.block_lt_of_cell? _ _ p0; clear q1 q2 h1))
  have HB0 : Hid (Pw w w6 rb w6.heap.size s5 (.int .i64 m) (.string (ba (bn st))) (.int .i64 (nn : Nat)) ts ta tc (.slice none 0 0) []) := ⟨H5.out.1, H5.out.1.p.lt, Nat.le_refl _, H5.out.2.1, Gw.nil _ _ _ _ _⟩
  have HAf0 : Hid (∀ o s', After (manyE flowE N) s5 o s' → After placeE s ⟨m, bn st, (nn : Nat), ts, o⟩ s') := fun o s' q => HA0.out.bind (H5.out.2.2.2.1.bind (H5.out.2.2.2.2.1.bind (H5.out.2.2.2.2.2.1.bind (H5.out.2.2.2.2.2.2.bind (q.bind (After.pure _ _))))))
  have HSt : Hid ((bn st).length ≤ 9223372036854775807) := by show _ ≤ _; rw [bn_len]; exact H5.out.2.2.1
  clear H5 p0 p1 p2 p3 p4 p5 hlp HA0
  have HPO : Hid (∀ wr rb B s' kv os, Pw w wr rb B s' (.int .i64 m) (.string (ba (bn st))) (.int .i64 (nn : Nat)) ts ta tc kv os → ∀ ao co, kv = .slice ao os.length co → os.length ≤ 16 → PlV wr (fun g => w.heap.size + 2 ≤ g) ⟨m, bn st, (nn : Nat), ts, os⟩ ta tc ao co) := fun wr rb B s' kv os q ao co hv ho => q.out hv HKi.out ⟨by omega, by omega⟩ HSt.out ho
  generalize w6.heap.size = B at *
  generalize hSt : ba (bn st) = sv at *
  generalize htl : ts.length = tl at *
  go_loopw [19] (fun v wr => ∃ (i : Nat), i ≤ N ∧ v = .int .i64 i ∧ Hid (∃ kv os s', Pw w wr rb B s' (.int .i64 m) (.string sv) (.int .i64 (nn : Nat)) ts ta tc kv os ∧ os.length = i ∧ After (manyE flowE i) s5 os s')) (fun v _ => N - (intOf v).toNat)
  case atStart => exact ⟨0, Nat.zero_le _, rfl, _, [], s5, HB0.out, rfl, After.pure _ _⟩
  case round =>
    obtain ⟨i, hi2, rfl, HR0⟩ := hrel
    obtain ⟨kv, os, s', hR, hol, hAf⟩ := HR0.out
    have HR : Hid (Pw w wr rb B s' (.int .i64 m) (.string sv) (.int .i64 (nn : Nat)) ts ta tc kv os) := hR
    have HTl : Hid (os.length = i) := hol
    have HAf : Hid (After (manyE flowE i) s5 os s') := hAf
    clear hR hol hAf HR0 HB0
    obtain ⟨ka, kc, rfl⟩ := HR.out.kin.form
    obtain ⟨z0, z1, z2, z3, z4, z5⟩ := HR.out.five.r
    obtain ⟨x0, x1, x2, x3, x4, x5⟩ := HR.out.five.p
    have hlz := World.block_lt_of_cell? _ _ z0
    have hlx := World.block_lt_of_cell? _ _ x0
    rw [HTl.out] at x4
    rw [htl] at x3
    by_cases hlt2 : i < N
    · have HLn : Hid (os.length ≤ 1048576) := by show _ ≤ _; rw [HTl.out]; omega
      have HC : Hid (∀ w1, Rst w1 rb s' → Calls Try.prog 102 #[.pointer (some ⟨rb, 0, none⟩)] w1 (FlowP rb s' w1)) := fun w1 q => HFl.out s' w1 q
      have hir : (i : Int) < N := by omega
      rw [HTl.out] at HR
      go_wp2_with fail
      go_region_law (first
        | (have := HB3; refine step_flow rfl (.tmp 22) (.tmp 25) rfl HB3.out.1.kin HB3.out.2.1 HB3.out.1.hi rfl rfl rfl HLn.out ?_; intro v5 w5 h5 hg5; obtain ⟨va, vc, rfl⟩ := h5.form1; have HB5 : Hid (Pw w (w5.setCell ⟨w.heap.size + 1, 4, none⟩ (.slice va (os.length + 1) vc)) rb B s3' (.int .i64 m) (.string sv) (.int .i64 (nn : Nat)) ts ta tc (.slice va (os.length + 1) vc) (os ++ [y]) ∧ After flowE s' y s3') := ⟨(HB3.out.1.next hlt h5 hg5).2, HB3.out.2.2⟩; obtain ⟨t0, t1, t2, t3, t4, t5⟩ := (HB3.out.1.next hlt h5 hg5).1; have hls := World.block_lt_of_cell? _ _ t0; clear h5 hg5 HB3)
        | (go_simp; go_at_call 102; refine (HC.out _ (HR.out.drew hlt).five.rst).mono ?_; rintro e w3 ⟨y, s3', rk, ra, rl, rc, rfl, hrt, hA3, hr3, hf3⟩; have HB3 : Hid (Pw w w3 rb B s3' (.int .i64 m) (.string sv) (.int .i64 (nn : Nat)) ts ta tc (.slice ka i kc) os ∧ flowR w3 (fun g => B ≤ g ∧ (Value.slice ka i kc).ownBlock ≠ some g) [.int .i64 rk, .slice ra rl rc] y ∧ After flowE s' y s3') := ⟨(HR.out.drew hlt).then hlt hr3 hf3, flowR_kept _ _ _ _ _ _ hrt (kept_sub fun g hg => ⟨Nat.le_trans (HR.out.drew hlt).hi hg, (HR.out.drew hlt).kin.off hg⟩), hA3⟩; obtain ⟨y0, y1, y2, y3, y4, y5⟩ := HB3.out.1.five.p; have hly := World.block_lt_of_cell? _ _ y0; clear hrt hA3 hr3 hf3; go_wp2_with fail))
      all_goals (
        go_wp2
        go_roundw
        case rel => exact ⟨i + 1, by omega, by go_num, _, _, _, HB5.out.1, by rw [List.length_append, HTl.out]; rfl, HAf.out.bind (HB5.out.2.bind (After.pure _ _))⟩
        case measure => simp [intOf]; omega)
    · have he : i = N := by omega
      subst he
      have HF : Hid (PlV wr (fun g => w.heap.size + 2 ≤ g) ⟨m, bn st, (nn : Nat), ts, os⟩ ta tc ka kc) := HPO.out _ _ _ _ _ _ HR.out _ _ rfl (by rw [HTl.out]; omega)
      have HA3 : Hid (After placeE s ⟨m, bn st, (nn : Nat), ts, os⟩ s') := HAf0.out _ _ HAf.out
      rw [HTl.out] at HR
      clear HAf HPO
      go_wp2
      refine bodyPost_ret (v := .agg #[.int .i64 m, .string sv, .int .i64 (nn : Nat), .slice ta tl tc, .slice ka i kc]) (by simp [results, Try.results81, go_sem, z0, z1, z2, z3, z4]) rfl ⟨_, _, _, _, _, _, _, _, _, _, _, rfl, ⟨ta, tc, ka, kc, by rw [← htl, ← hSt, ← HTl.out], ?_⟩, HA3.out, five_rst (o := 0) HR.out.five.rst hlt, five_fr (o := 0) HR.out.five.fr (Nat.le_refl _)⟩
      exact HF.out.kept fun g hg _ => ⟨five_other (M := w.heap.size) (o := 0) (by omega), by omega⟩
end
section
open Go.RowKit
set_option linter.unusedVariables false

/-- A definition that was read. -/
def DefP (rb : Nat) (s : Sst) (w : World) (e : Ending) (w' : World) : Prop := ∃ d s' str a l c, e = .returned (.agg #[.string str, .slice a l c]) ∧ str = ba d.id ∧ l = d.places.length ∧ DfV w' (fun g => w.heap.size ≤ g) d a c ∧ After defE s d s' ∧ Rst w' rb s' ∧ Fr rb w w'
/-- What lies where while the places are read. -/
structure Dw (w wr : World) (rb M : Nat) (s : Sst) (str kv : Value) (ts : List Pl) : Prop where
  fr : Fr rb w wr
  rst : Rst wr rb s
  rbl : rb < w.heap.size
  r : Cell2 wr w.heap.size (.string ⟨#[]⟩) (.slice none 0 0)
  lo : w.heap.size < M
  d : Cell2 wr M str kv
  kin : Gw placeR 57 5 wr (M + 1) kv ts
theorem Dw.hi {w wr : World} {rb M : Nat} {s : Sst} {str kv : Value} {ts : List Pl} (h : Dw w wr rb M s str kv ts) : M + 1 ≤ wr.heap.size := h.d.lt
theorem Dw.then {w wr w3 : World} {rb M : Nat} {s s3 : Sst} {str kv : Value} {ts : List Pl} (h : Dw w wr rb M s str kv ts) (hr : Rst w3 rb s3) (hf : Fr rb wr w3) : Dw w w3 rb M s3 str kv ts :=
  have h1 := h.rbl
  have h2 := h.lo
  ⟨h.fr.trans hf, hr, h.rbl, h.r.fr hf (by omega), h.lo, h.d.fr hf (by omega), h.kin.fr placeR_kept hf (by omega)⟩
theorem Dw.drew {w wr : World} {rb M : Nat} {s : Sst} {str kv : Value} {ts : List Pl} (h : Dw w wr rb M s str kv ts) : Dw w wr.drew rb M s str kv ts :=
  h.then (h.rst.kept fun _ _ => rfl) (.of_below (Below.drew (Below.refl _ _)))
theorem Dw.next {w w3 w5 : World} {rb M : Nat} {s : Sst} {str kv v5 : Value} {ts ts' : List Pl} {o : Obj} (h : Dw w w3 rb M s str kv ts) (h5 : Gw placeR 57 5 w5 (M + 1) v5 ts') (hg : (w3.alloc o).grownBy w5 kv.ownBlock) :
    Cell2 w5 M str kv ∧ Dw w (w5.setCell ⟨M, 1, none⟩ v5) rb M s str v5 ts' := by
  have hs := h.hi
  have h1 := h.rbl
  have h2 := h.lo
  have hB : Below (M + 1) w3 w5 := ((Below.refl _ _).alloc hs _).grown hg (Nat.le_trans hs (le_alloc _ _)) h.kin.own
  have hd : Cell2 w5 M str kv := h.d.kept (hB.block _ (by omega))
  refine ⟨hd, ?_, (h.rst.below hB (by omega)).set (p := ⟨M, 1, none⟩) (by show rb < M; omega) _, h.rbl, (h.r.kept (hB.block _ (by omega))).far (by show w.heap.size ≠ M; omega) _, h.lo, hd.put 1 _, h5.set placeR_kept (by show M < M + 1; omega) _⟩
  have hf : Fr rb w w5 := ⟨hB.os.trans h.fr.os, hB.tape.trans h.fr.tape, hB.output.trans h.fr.output, Nat.le_trans h.fr.size hB.size, fun q hq hne => (hB.block q (by omega)).trans (h.fr.block q hq hne)⟩
  exact hf.setCell (p := ⟨M, 1, none⟩) (.inr (by show w.heap.size ≤ M; omega)) _
set_option maxRecDepth 100000 in
set_option maxHeartbeats 800000 in
theorem def_any (rb : Nat) (s : Sst) (w : World) (hR : Rst w rb s) : Calls Try.prog 48 #[.pointer (some ⟨rb, 0, none⟩)] w (DefP rb s w) := by
  have hlt := hR.lt
  have HX : Hid (∀ o, Calls Try.prog 79 #[.pointer (some ⟨rb, 0, none⟩)] (w.alloc o) fun e w' => ∃ x s', e = .returned (.string (ba (bn x))) ∧ x.length ≤ 9223372036854775807 ∧ After textE s x s' ∧ Rst w' rb s' ∧ Fr rb (w.alloc o) w') := fun o => text_any rb s _ (hR.alloc o)
  have HN : Hid (∀ s1 w1, Rst w1 rb s1 → Calls Try.prog 80 #[.pointer (some ⟨rb, 0, none⟩), .int .u64 4096] w1 fun e w' => ∃ x s', (e = .returned (.int .i64 (x : Nat)) ∧ x ≤ 4096) ∧ After (uintE 4096) s1 x s' ∧ Rst w' rb s' ∧ Fr rb w1 w') := fun s1 w1 q => number_any rb 4096 s1 w1 (by decide) q
  have HPl : Hid (∀ s1 w1, Rst w1 rb s1 → Calls Try.prog 81 #[.pointer (some ⟨rb, 0, none⟩)] w1 (PlaceP rb s1 w1)) := fun s1 w1 q => place_any rb s1 w1 q
  have hn1 : w.heap.size ≠ rb := by omega
  clear hR
  go_enter Try.func48, Try.ntmps48
  go_wp2_with (first
    | (go_at_call 80; have := H1; refine (HN.out _ _ (H1.out.1.alloc _)).mono ?_; rintro e w3 ⟨N, s2, ⟨rfl, hN⟩, qa, q1, q2⟩; have H2 : Hid (Dw w w3 rb w2.heap.size s2 (.string sv) (.slice none 0 0) [] ∧ After textE s st s1 ∧ After (uintE 4096) s1 N s2 ∧ ba (bn st) = sv ∧ st.length ≤ 9223372036854775807) := ⟨⟨(H1.out.2.1.alloc _).trans q2, q1, hlt, (H1.out.2.2.1.alloc _).fr q2 hn1, H1.out.2.2.1.lt, (Cell2.new w2 (.string sv) (.slice none 0 0) 24).fr q2 (Nat.ne_of_gt (Nat.lt_trans hlt H1.out.2.2.1.lt)), Gw.nil _ _ _ _ _⟩, H1.out.2.2.2.1, qa, H1.out.2.2.2.2.1, H1.out.2.2.2.2.2⟩; clear qa q1 q2 H1)
    | (go_at_call 79; refine (HX.out _).mono ?_; rintro e w2 ⟨st, s1, rfl, hst, qa, q1, q2⟩; generalize hsv : ba (bn st) = sv at *; have H1 : Hid (Rst w2 rb s1 ∧ Fr rb w w2 ∧ Cell2 w2 w.heap.size (.string ⟨#[]⟩) (.slice none 0 0) ∧ After textE s st s1 ∧ ba (bn st) = sv ∧ st.length ≤ 9223372036854775807) := ⟨q1, ((Fr.refl _ _).alloc _).trans q2, (Cell2.new w _ _ 24).fr q2 hn1, qa, hsv, hst⟩; clear qa q1 q2 hsv hst))
  have HB0 : Hid (Dw w w3 rb w2.heap.size s2 (.string sv) (.slice none 0 0) []) := H2.out.1
  have HAf0 : Hid (∀ o s', After (manyE placeE N) s2 o s' → After defE s ⟨bn st, o⟩ s') := fun o s' q => H2.out.2.1.bind (H2.out.2.2.1.bind (q.bind (After.pure _ _)))
  have HSt : Hid (ba (bn st) = sv ∧ (bn st).length ≤ 9223372036854775807) := ⟨H2.out.2.2.2.1, by rw [bn_len]; exact H2.out.2.2.2.2⟩
  clear H2
  generalize w2.heap.size = M at *
  go_loopw [9] (fun v wr => ∃ (i : Nat), i ≤ N ∧ v = .int .i64 i ∧ Hid (∃ kv os s', Dw w wr rb M s' (.string sv) kv os ∧ os.length = i ∧ After (manyE placeE i) s2 os s')) (fun v _ => N - (intOf v).toNat)
  case atStart => exact ⟨0, Nat.zero_le _, rfl, _, [], s2, HB0.out, rfl, After.pure _ _⟩
  case round =>
    obtain ⟨i, hi2, rfl, HR0⟩ := hrel
    obtain ⟨kv, os, s', hR, hol, hAf⟩ := HR0.out
    have HR : Hid (Dw w wr rb M s' (.string sv) kv os) := hR
    have HTl : Hid (os.length = i) := hol
    have HAf : Hid (After (manyE placeE i) s2 os s') := hAf
    clear hR hol hAf HR0 HB0
    obtain ⟨ka, kc, rfl⟩ := HR.out.kin.form
    obtain ⟨z0, z1, z2⟩ := HR.out.r
    obtain ⟨x0, x1, x2⟩ := HR.out.d
    have hlz := World.block_lt_of_cell? _ _ z0
    have hlx := World.block_lt_of_cell? _ _ x0
    rw [HTl.out] at x1
    have hlo : w.heap.size < M := HR.out.lo
    by_cases hlt2 : i < N
    · have HLn : Hid (os.length ≤ 1048576) := by show _ ≤ _; rw [HTl.out]; omega
      have HC : Hid (∀ w1, Rst w1 rb s' → Calls Try.prog 81 #[.pointer (some ⟨rb, 0, none⟩)] w1 (PlaceP rb s' w1)) := fun w1 q => HPl.out s' w1 q
      have hir : (i : Int) < N := by omega
      rw [HTl.out] at HR
      go_wp2_with fail
      go_region_law (first
        | (have := HB3; refine step_place rfl (.tmp 12) (.tmp 15) rfl HB3.out.1.kin HB3.out.2.1 HB3.out.1.hi rfl rfl rfl HLn.out ?_; intro v5 w5 h5 hg5; obtain ⟨va, vc, rfl⟩ := h5.form1; have HB5 : Hid (Dw w (w5.setCell ⟨M, 1, none⟩ (.slice va (os.length + 1) vc)) rb M s3' (.string sv) (.slice va (os.length + 1) vc) (os ++ [y]) ∧ After placeE s' y s3') := ⟨(HB3.out.1.next h5 hg5).2, HB3.out.2.2⟩; obtain ⟨t0, t1, t2⟩ := (HB3.out.1.next h5 hg5).1; have hls := World.block_lt_of_cell? _ _ t0; clear h5 hg5 HB3)
        | (go_simp; go_at_call 81; refine (HC.out _ HR.out.drew.rst).mono ?_; rintro e w3 ⟨y, s3', rk, rs, rn, ra, rl, rc, qa, ql, qc, rfl, hrt, hA3, hr3, hf3⟩; have HB3 : Hid (Dw w w3 rb M s3' (.string sv) (.slice ka i kc) os ∧ placeR w3 (fun g => M + 1 ≤ g ∧ (Value.slice ka i kc).ownBlock ≠ some g) [.int .i64 rk, .string rs, .int .i64 rn, .slice ra rl rc, .slice qa ql qc] y ∧ After placeE s' y s3') := ⟨HR.out.drew.then hr3 hf3, placeR_kept _ _ _ _ _ _ hrt (kept_sub fun g hg => ⟨Nat.le_trans HR.out.drew.hi hg, HR.out.drew.kin.off hg⟩), hA3⟩; obtain ⟨y0, y1, y2⟩ := HB3.out.1.d; have hly := World.block_lt_of_cell? _ _ y0; clear hrt hA3 hr3 hf3; go_wp2_with fail))
      all_goals (
        go_wp2
        go_roundw
        case rel => exact ⟨i + 1, by omega, by go_num, _, _, _, HB5.out.1, by rw [List.length_append, HTl.out]; rfl, HAf.out.bind (HB5.out.2.bind (After.pure _ _))⟩
        case measure => simp [intOf]; omega)
    · have he : i = N := by omega
      subst he
      have HF : Hid (PlsV wr (fun g => M + 1 ≤ g) (.slice ka os.length kc) os) := HR.out.kin.places (by rw [HTl.out]; omega)
      have HA3 : Hid (After defE s ⟨bn st, os⟩ s') := HAf0.out _ _ HAf.out
      rw [HTl.out] at HR
      clear HAf
      go_wp2
      refine bodyPost_ret (v := .agg #[.string sv, .slice ka i kc]) (by simp [results, Try.results48, go_sem, z0, z1]) rfl ⟨⟨bn st, os⟩, _, _, _, _, _, rfl, HSt.out.1.symm, HTl.out.symm, ⟨HSt.out.2, ?_⟩, HA3.out, two_rst (o := 0) HR.out.rst hlt, two_fr (o := 0) HR.out.fr (Nat.le_refl _)⟩
      exact HF.out.kept fun g hg _ => ⟨two_other (M := w.heap.size) (o := 0) (by omega), by omega⟩
end
section
open Go.RowKit
set_option linter.unusedVariables false

theorem own_shape {w : World} {base : Nat} {v : Value} {l : BB} (h : V.Owns w base v l) : ∃ a n c, v = .slice a n c ∧ ∀ x, a = some x → base ≤ x.block := by
  rcases h.2 with ⟨rfl, _⟩ | ⟨g, cap, cur, rfl, hb, _⟩
  · exact ⟨_, _, _, rfl, fun x hx => by cases hx⟩
  · exact ⟨_, _, _, rfl, fun x hx => by cases hx; exact hb⟩
set_option maxRecDepth 100000 in
theorem Clone_any (v : Value) (l : BB) (w : World) (h : V.ReadsV w v l) (hl : l.length ≤ 10000000000000) : Calls Try.prog 36 #[v] w fun e w' => ∃ a n c, e = .returned (.slice a n c) ∧ V.ReadsV w' (.slice a n c) l ∧ (∀ x, a = some x → w.heap.size ≤ x.block) ∧ Below w.heap.size w w' := by
  have HR : Hid (V.ReadsV w v l) := h
  obtain ⟨a, c, rfl, hn, _, _, hr⟩ := h
  cases a with
  | none =>
    obtain rfl : c = 0 := hn rfl
    have hl0 : l = [] := by
      rcases hr.2 with q | ⟨_, _, q, _⟩
      · exact q
      · cases q
    subst hl0
    have hq : ∀ w, (binOp .eql 32 (.slice none 0 0) (.slice none 0 0)).run Try.prog w = .ok (.bool true) w := fun w => Lib.run_eql_slice_nil w 32 5 none 0 0 0 0 Try.underlying32
    go_enter Try.func36, Try.ntmps36
    go_wp2_with (simp only [hq])
    go_ret
    exact ⟨_, _, _, rfl, V.ReadsV.nil _, (fun x hx => by cases hx), Below.refl _ _⟩
  | some x =>
    have HO : Hid (V.Owns (w.alloc (.cells #[] 5)) w.heap.size (.slice (some ⟨w.heap.size, 0, none⟩) 0 0) []) := World.ownsRow_made (base := w.heap.size) (size := 1) (e := 5) w #[] 0 (Nat.le_refl _) (Nat.zero_le _) rfl
    have HL : Hid (([] : BB).length + l.length ≤ 140737488355328) := by show _ ≤ _; simp; omega
    clear hr hn
    generalize hN : l.length = n at *
    have hq : ∀ w, (binOp .eql 32 (.slice (some x) n c) (.slice none 0 0)).run Try.prog w = .ok (.bool false) w := fun w => Lib.run_eql_slice_nil w 32 5 (some x) n c 0 0 Try.underlying32
    go_enter Try.func36, Try.ntmps36
    go_wp2_with (first | (simp only [hq]) | (at_builtin; refine V.wpList_append_bytes rfl (.tmp 5) (.tmp 6) 32 rfl w.heap.size Try.underlying32 V.Try.info5 _ [] rfl HO.out _ l rfl (HR.out.below ((Below.refl _ _).alloc (Nat.le_refl _) _)) (by rw [hN]; exact HL.out) (V.base_le (Nat.le_refl _) _) ?_; intro v1 w1 hown1 hg1; have O1 : Hid (V.Owns w1 w.heap.size v1 l ∧ Below w.heap.size w w1) := ⟨by simpa using hown1, ((Below.refl _ _).alloc (Nat.le_refl _) _).trans hg1⟩; clear hown1 hg1))
    go_ret
    obtain ⟨va, vn, vc, rfl, hv⟩ := own_shape O1.out.1
    exact ⟨_, _, _, rfl, V.ReadsV.of_own O1.out.1, hv, O1.out.2⟩
theorem after_err {α : Type} {f : Rds α} {l : BB} {x : α} {s' : Sst} {e : Nat} (h : After f ⟨0, l⟩ x s') (hf : f l = .error e) : s' = ⟨e, []⟩ ∧ e ≠ 0 := by
  unfold After at h
  rw [if_neg (by simp)] at h
  simp only [hf] at h
  exact ⟨h.2, h.1⟩
theorem after_ok {α : Type} {f : Rds α} {l r : BB} {x y : α} {s' : Sst} (h : After f ⟨0, l⟩ x s') (hf : f l = .ok (y, r)) : x = y ∧ s' = ⟨0, r⟩ := by
  unfold After at h
  rw [if_neg (by simp)] at h
  simp only [hf] at h
  exact h
/-- A new reader. -/
theorem Rst.new {w : World} {a : Option Addr} {n c : Nat} {l : BB} (h : V.ReadsV w (.slice a n c) l) (o : Obj) : Rst ((w.alloc o).alloc (.cells #[.slice a n c, .int .i64 0] 63)) (w.heap.size + 1) ⟨0, l⟩ := by
  have hn : n = l.length := by obtain ⟨_, _, e, _⟩ := h; simp only [Value.slice.injEq] at e; exact e.2.1
  subst hn
  have C := Cell2.second w o (.slice a l.length c) (.int .i64 0) 63
  refine ⟨⟨a, c, C.c0, (h.below ((Below.refl _ _).alloc (Nat.le_refl _) _)).below ((Below.refl _ _).alloc (Nat.le_refl _) _), fun h0 x hx => ?_⟩, C.c1, C.free, fun q => absurd rfl q⟩
  obtain ⟨b, off, e, hb, _⟩ := V.cells_of h (by cases l with | nil => exact absurd rfl h0 | cons _ _ => simp)
  rw [e] at hx
  cases hx
  show b < w.heap.size + 1
  omega
theorem below_four {B : Nat} {a w : World} {M o : Nat} {u0 u1 u2 u3 : Value} (h : Below B a w) (hM : B ≤ M) : Below B a ((((w.setCell ⟨M, o, none⟩ u0).setCell ⟨M, o + 1, none⟩ u1).setCell ⟨M, o + 2, none⟩ u2).setCell ⟨M, o + 3, none⟩ u3) :=
  (((h.setCell (p := ⟨M, o, none⟩) hM _).setCell (p := ⟨M, o + 1, none⟩) hM _).setCell (p := ⟨M, o + 2, none⟩) hM _).setCell (p := ⟨M, o + 3, none⟩) hM _
theorem below_twoC {B : Nat} {a w : World} {M o : Nat} {u0 u1 : Value} (h : Below B a w) (hM : B ≤ M) : Below B a ((w.setCell ⟨M, o, none⟩ u0).setCell ⟨M, o + 1, none⟩ u1) :=
  (h.setCell (p := ⟨M, o, none⟩) hM _).setCell (p := ⟨M, o + 1, none⟩) hM _
theorem below_rd {w w' : World} {o o2 : Obj} (h : Fr (w.heap.size + 1) ((w.alloc o).alloc o2) w') : Below w.heap.size w w' :=
  (((Below.refl _ _).alloc (Nat.le_refl _) _).alloc (le_alloc _ _) _).trans (h.below (Nat.le_succ _) (Nat.le_trans (le_alloc _ _) (le_alloc _ _)))
set_option maxRecDepth 100000 in
set_option maxHeartbeats 400000 in
theorem ReadExpr_err (v : Value) (l : BB) (w : World) (h : V.ReadsV w v l) (e : Nat) (he : exprE l = .error e) : Calls Try.prog 14 #[v] w fun en w' => en = .returned (.tuple #[.agg #[.int .i64 0, .int .i64 0, .string ⟨#[]⟩, .slice none 0 0], .slice none 0 0, .int .i64 e]) ∧ Below w.heap.size w w' := by
  have h' := h
  obtain ⟨a, c, rfl, _⟩ := h'
  have hz : e ≠ 0 := NZ.expr _ _ he
  have hz1 : ¬ (e : Int) = 0 := by omega
  have HN : Hid (Calls Try.prog 35 #[.pointer (some ⟨w.heap.size + 1, 0, none⟩)] ((w.alloc (.cells #[.int .i64 0, .int .i64 0, .string ⟨#[]⟩, .slice none 0 0] 31)).alloc (.cells #[.slice a l.length c, .int .i64 0] 63)) fun en w' => ∃ k n str ra rl rc, en = .returned (.agg #[.int .i64 k, .int .i64 n, .string str, .slice ra rl rc]) ∧ w'.cell? ⟨w.heap.size + 1, 1, none⟩ = some (.int .i64 e) ∧ Below w.heap.size w w' ∧ Cell4 w' w.heap.size (.int .i64 0) (.int .i64 0) (.string ⟨#[]⟩) (.slice none 0 0)) := by
    refine (tree_any (w.heap.size + 1) ⟨0, l⟩ _ (Rst.new h _)).mono ?_
    rintro en w' ⟨t, s', k, n, str, ra, rl, rc, rfl, _, qa, q1, q2⟩
    obtain ⟨rfl, _⟩ := after_err qa he
    exact ⟨_, _, _, _, _, _, rfl, q1.err, below_rd q2, ((Cell4.new w _ _ _ _ 31).alloc _).fr q2 (by omega)⟩
  clear h he
  generalize l.length = nl at *
  go_enter Try.func14, Try.ntmps14
  go_wp2_with (go_at_call 35; refine HN.out.mono ?_; rintro en w2 ⟨k, n, str, ra, rl, rc, rfl, hc, hB, hC⟩; obtain ⟨z0, z1, z2, z3, z4⟩ := hC; have HB2 : Hid (Below w.heap.size w w2) := hB; have hl2 := World.block_lt_of_cell? _ _ hc; have hl3 := World.block_lt_of_cell? _ _ z0; clear hB)
  have HW : Hid (Below w.heap.size w (w2.alloc (.cells #[.int .i64 k, .int .i64 n, .string str, .slice ra rl rc] 31)) ∧ Cell4 (w2.alloc (.cells #[.int .i64 k, .int .i64 n, .string str, .slice ra rl rc] 31)) w.heap.size (.int .i64 0) (.int .i64 0) (.string ⟨#[]⟩) (.slice none 0 0) ∧ (w2.alloc (.cells #[.int .i64 k, .int .i64 n, .string str, .slice ra rl rc] 31)).cell? ⟨w.heap.size + 1, 1, none⟩ = some (.int .i64 e)) := ⟨HB2.out.alloc HB2.out.size _, Cell4.alloc ⟨z0, z1, z2, z3, z4⟩ _, (cell_kept (heap_alloc_old _ _ hl2) _).trans hc⟩
  clear HB2 hc z0 z1 z2 z3 z4 hl2 hl3
  generalize w2.heap.size = xb at *
  generalize w2.alloc (.cells #[.int .i64 k, .int .i64 n, .string str, .slice ra rl rc] 31) = W at *
  obtain ⟨z0, z1, z2, z3, z4⟩ := HW.out.2.1
  have hc := HW.out.2.2
  have hl2 := World.block_lt_of_cell? _ _ hc
  have hl3 := World.block_lt_of_cell? _ _ z0
  go_region
  all_goals (
    go_wp2
    refine bodyPost_ret (v := .tuple #[.agg #[.int .i64 0, .int .i64 0, .string ⟨#[]⟩, .slice none 0 0], .slice none 0 0, .int .i64 e]) (by simp [results, Try.results14, go_sem, z0, z1, z2, z3]) rfl ⟨rfl, ?_⟩
    first
      | exact below_four (o := 0) HW.out.1.drew (Nat.le_refl _)
      | exact (below_four (o := 0) HW.out.1.drew (Nat.le_refl _)).drew)
set_option maxRecDepth 100000 in
set_option maxHeartbeats 400000 in
theorem ReadExpr_ok (v : Value) (l r : BB) (t : Tr) (w : World) (h : V.ReadsV w v l) (he : exprE l = .ok (t, r)) (hlen : l.length ≤ 1000000000000) : Calls Try.prog 14 #[v] w fun en w' => ∃ k n str a l c v', en = .returned (.tuple #[.agg #[.int .i64 k, .int .i64 n, .string str, .slice a l c], v', .int .i64 0]) ∧ Tre w' (fun g => w.heap.size ≤ g) (.agg #[.int .i64 k, .int .i64 n, .string str, .slice a l c]) t ∧ V.ReadsV w' v' r ∧ Below w.heap.size w w' := by
  have h' := h
  obtain ⟨a, c, rfl, _⟩ := h'
  have hrl : r.length ≤ l.length := by
    have := (expr_once he).1
    rw [this, List.length_append]; omega
  have HN : Hid (Calls Try.prog 35 #[.pointer (some ⟨w.heap.size + 1, 0, none⟩)] ((w.alloc (.cells #[.int .i64 0, .int .i64 0, .string ⟨#[]⟩, .slice none 0 0] 31)).alloc (.cells #[.slice a l.length c, .int .i64 0] 63)) fun en w' => ∃ k n str ra rl rc ba2 bn2 bc2, en = .returned (.agg #[.int .i64 k, .int .i64 n, .string str, .slice ra rl rc]) ∧ w'.cell? ⟨w.heap.size + 1, 1, none⟩ = some (.int .i64 0) ∧ w'.cell? ⟨w.heap.size + 1, 0, none⟩ = some (.slice ba2 bn2 bc2) ∧ V.ReadsV w' (.slice ba2 bn2 bc2) r ∧ Below w.heap.size w w' ∧ Cell4 w' w.heap.size (.int .i64 0) (.int .i64 0) (.string ⟨#[]⟩) (.slice none 0 0) ∧ Tre w' (fun g => w.heap.size + 2 ≤ g) (.agg #[.int .i64 k, .int .i64 n, .string str, .slice ra rl rc]) t) := by
    refine (tree_any (w.heap.size + 1) ⟨0, l⟩ _ (Rst.new h _)).mono ?_
    rintro en w' ⟨t', s', k, n, str, ra, rl, rc, rfl, qt, qa, q1, q2⟩
    obtain ⟨rfl, rfl⟩ := after_ok qa he
    obtain ⟨a2, c2, e1, e2, _⟩ := q1.rest
    exact ⟨_, _, _, _, _, _, _, _, _, rfl, q1.err, e1, e2, below_rd q2, ((Cell4.new w _ _ _ _ 31).alloc _).fr q2 (by omega), qt.sub fun g hg => by rw [size_alloc, size_alloc] at hg; exact hg⟩
  have HCl : Hid (∀ v w, V.ReadsV w v r → Calls Try.prog 36 #[v] w fun e w' => ∃ a n c, e = .returned (.slice a n c) ∧ V.ReadsV w' (.slice a n c) r ∧ (∀ x, a = some x → w.heap.size ≤ x.block) ∧ Below w.heap.size w w') := fun v w q => Clone_any v r w q (by omega)
  clear h he
  generalize l.length = nl at *
  go_enter Try.func14, Try.ntmps14
  go_wp2_with (go_at_call 35; refine HN.out.mono ?_; rintro en w2 ⟨k, n, str, ra, rl, rc, a2, n2, c2, rfl, hc, hc0, hr, hB, hC, hT⟩; obtain ⟨z0, z1, z2, z3, z4⟩ := hC; have H2 : Hid (Below w.heap.size w w2 ∧ V.ReadsV w2 (.slice a2 n2 c2) r ∧ Tre w2 (fun g => w.heap.size + 2 ≤ g) (.agg #[.int .i64 k, .int .i64 n, .string str, .slice ra rl rc]) t ∧ Cell4 w2 w.heap.size (.int .i64 0) (.int .i64 0) (.string ⟨#[]⟩) (.slice none 0 0)) := ⟨hB, hr, hT, ⟨z0, z1, z2, z3, z4⟩⟩; have hl2 := World.block_lt_of_cell? _ _ hc; have hl3 := World.block_lt_of_cell? _ _ z0; clear hB hr hT)
  have HW : Hid (Below w.heap.size w (w2.alloc (.cells #[.int .i64 k, .int .i64 n, .string str, .slice ra rl rc] 31)) ∧ Cell4 (w2.alloc (.cells #[.int .i64 k, .int .i64 n, .string str, .slice ra rl rc] 31)) w.heap.size (.int .i64 0) (.int .i64 0) (.string ⟨#[]⟩) (.slice none 0 0) ∧ (w2.alloc (.cells #[.int .i64 k, .int .i64 n, .string str, .slice ra rl rc] 31)).cell? ⟨w.heap.size + 1, 0, none⟩ = some (.slice a2 n2 c2) ∧ Cell4 (w2.alloc (.cells #[.int .i64 k, .int .i64 n, .string str, .slice ra rl rc] 31)) w2.heap.size (.int .i64 k) (.int .i64 n) (.string str) (.slice ra rl rc) ∧ V.ReadsV (w2.alloc (.cells #[.int .i64 k, .int .i64 n, .string str, .slice ra rl rc] 31)) (.slice a2 n2 c2) r ∧ Tre (w2.alloc (.cells #[.int .i64 k, .int .i64 n, .string str, .slice ra rl rc] 31)) (fun g => w.heap.size + 2 ≤ g) (.agg #[.int .i64 k, .int .i64 n, .string str, .slice ra rl rc]) t) := ⟨H2.out.1.alloc H2.out.1.size _, H2.out.2.2.2.alloc _, (cell_kept (heap_alloc_old _ _ hl2) _).trans hc0, Cell4.new _ _ _ _ _ 31, H2.out.2.1.below ((Below.refl _ _).alloc (Nat.le_refl _) _), H2.out.2.2.1.alloc _⟩
  have hx2 : w.heap.size < w2.heap.size := hl3
  clear H2 hc hc0 z0 z1 z2 z3 z4 hl2 hl3
  generalize w2.heap.size = xb at *
  generalize w2.alloc (.cells #[.int .i64 k, .int .i64 n, .string str, .slice ra rl rc] 31) = W at *
  obtain ⟨z0, z1, z2, z3, z4⟩ := HW.out.2.1
  obtain ⟨x0, x1, x2, x3, x4⟩ := HW.out.2.2.2.1
  have hc := HW.out.2.2.1
  have hl2 := World.block_lt_of_cell? _ _ hc
  have hl3 := World.block_lt_of_cell? _ _ z0
  have hl4 := World.block_lt_of_cell? _ _ x0
  have HD : Hid (Below W.heap.size W W.drew) := (Below.refl _ _).drew
  go_region_with (go_at_call 36; refine (HCl.out _ _ (HW.out.2.2.2.2.1.below HD.out)).mono ?_; rintro e w3 ⟨va, vn, vc, rfl, q1, q4, q2⟩; have hB3 : Below W.heap.size W w3 := HD.out.trans q2; obtain ⟨y0, y1, y2, y3, y4⟩ := HW.out.2.1.below hB3; obtain ⟨v0, v1, v2, v3, v4⟩ := HW.out.2.2.2.1.below hB3; have H3 : Hid (Below w.heap.size w w3 ∧ V.ReadsV w3 (.slice va vn vc) r ∧ Tre w3 (fun g => w.heap.size + 2 ≤ g) (.agg #[.int .i64 k, .int .i64 n, .string str, .slice ra rl rc]) t ∧ ∀ x, va = some x → x.block ≠ w.heap.size) := ⟨HW.out.1.trans (hB3.mono HW.out.1.size), q1, HW.out.2.2.2.2.2.below hB3, fun x hx => Nat.ne_of_gt (Nat.lt_of_lt_of_le hl3 (q4 x hx))⟩; have hl5 := World.block_lt_of_cell? _ _ y0; clear q1 q2 q4 hB3)
  all_goals (
    go_wp2
    refine bodyPost_ret (v := .tuple #[.agg #[.int .i64 k, .int .i64 n, .string str, .slice ra rl rc], .slice va vn vc, .int .i64 0]) (by simp [results, Try.results14, go_sem, y0, y1, y2, y3]) rfl ⟨_, _, _, _, _, _, _, rfl, ?_, ?_, below_four (o := 0) H3.out.1 (Nat.le_refl _)⟩
    · exact H3.out.2.2.1.kept fun g hg _ => ⟨four_other (M := w.heap.size) (o := 0) (by omega), by omega⟩
    · exact readsV_kept H3.out.2.1 fun _ x hx => four_other (M := w.heap.size) (o := 0) (H3.out.2.2.2 x hx))
end
section
open Go.RowKit
set_option linter.unusedVariables false

/-- What def leaves where Read has made a reader. -/
theorem def_new (l : BB) (a : Option Addr) (c : Nat) (w : World) (h : V.ReadsV w (.slice a l.length c) l) : Calls Try.prog 48 #[.pointer (some ⟨w.heap.size + 1, 0, none⟩)] ((w.alloc (.cells #[.string ⟨#[]⟩, .slice none 0 0] 24)).alloc (.cells #[.slice a l.length c, .int .i64 0] 63)) fun en w' => ∃ d s' str ra rl rc qa qc, en = .returned (.agg #[.string str, .slice ra rl rc]) ∧ str = ba d.id ∧ rl = d.places.length ∧ DfV w' (fun g => w.heap.size + 2 ≤ g) d ra rc ∧ After defE ⟨0, l⟩ d s' ∧ w'.cell? ⟨w.heap.size + 1, 1, none⟩ = some (.int .i64 s'.err) ∧ w'.cell? ⟨w.heap.size + 1, 0, none⟩ = some (.slice qa s'.rest.length qc) ∧ s'.rest.length ≤ 9223372036854775807 ∧ Below w.heap.size w w' ∧ Cell2 w' w.heap.size (.string ⟨#[]⟩) (.slice none 0 0) := by
  refine (def_any (w.heap.size + 1) ⟨0, l⟩ _ (Rst.new h _)).mono ?_
  rintro en w' ⟨d, s', str, ra, rl, rc, rfl, h1, h2, h3, h4, h5, h6⟩
  obtain ⟨qa, qc, e1, e2, _⟩ := h5.rest
  exact ⟨d, s', str, ra, rl, rc, qa, qc, rfl, h1, h2, h3.kept (kept_sub fun g hg => by rw [size_alloc, size_alloc] at hg; exact hg), h4, h5.err, e1, reads_len e2, below_rd h6, ((Cell2.new w _ _ 24).alloc _).fr h6 (by omega)⟩
set_option maxRecDepth 100000 in
set_option maxHeartbeats 400000 in
theorem Read_e1 (v : Value) (l : BB) (w : World) (h : V.ReadsV w v l) (e : Nat) (he : defE l = .error e) : Calls Try.prog 23 #[v] w fun en w' => en = .returned (.tuple #[.agg #[.string ⟨#[]⟩, .slice none 0 0], .int .i64 (e : Nat)]) ∧ Below w.heap.size w w' := by
  have h' := h
  obtain ⟨a, c, rfl, _⟩ := h'
  have hz : e ≠ 0 := NZ.df _ _ he
  have hz1 : ¬ (e : Int) = 0 := by omega
  have HN : Hid (Calls Try.prog 48 #[.pointer (some ⟨w.heap.size + 1, 0, none⟩)] ((w.alloc (.cells #[.string ⟨#[]⟩, .slice none 0 0] 24)).alloc (.cells #[.slice a l.length c, .int .i64 0] 63)) fun en w' => ∃ str ra rl rc, en = .returned (.agg #[.string str, .slice ra rl rc]) ∧ w'.cell? ⟨w.heap.size + 1, 1, none⟩ = some (.int .i64 e) ∧ Below w.heap.size w w' ∧ Cell2 w' w.heap.size (.string ⟨#[]⟩) (.slice none 0 0)) := by
    refine (def_new l a c w h).mono ?_
    rintro en w' ⟨d, s', str, ra, rl, rc, qa, qc, rfl, h1, h2, h3, h4, h5, h6, _, h7, h8⟩
    obtain ⟨rfl, _⟩ := after_err h4 he
    exact ⟨_, _, _, _, rfl, h5, h7, h8⟩
  clear he
  clear h
  generalize l.length = nl at *
  go_enter Try.func23, Try.ntmps23
  go_wp2_with (go_at_call 48; refine HN.out.mono ?_; rintro en w2 ⟨str, ra, rl, rc, rfl, hc, hB, hC⟩; obtain ⟨z0, z1, z2⟩ := hC; have HB2 : Hid (Below w.heap.size w w2) := hB; have hl2 := World.block_lt_of_cell? _ _ hc; have hl3 := World.block_lt_of_cell? _ _ z0; clear hB)
  have HW : Hid (Below w.heap.size w (w2.alloc (.cells #[.string str, .slice ra rl rc] 24)) ∧ Cell2 (w2.alloc (.cells #[.string str, .slice ra rl rc] 24)) w.heap.size (.string ⟨#[]⟩) (.slice none 0 0) ∧ (w2.alloc (.cells #[.string str, .slice ra rl rc] 24)).cell? ⟨w.heap.size + 1, 1, none⟩ = some (.int .i64 e)) := ⟨HB2.out.alloc HB2.out.size _, Cell2.alloc ⟨z0, z1, z2⟩ _, (cell_kept (heap_alloc_old _ _ hl2) _).trans hc⟩
  clear HB2 hc z0 z1 z2 hl2 hl3
  generalize w2.heap.size = xb at *
  generalize w2.alloc (.cells #[.string str, .slice ra rl rc] 24) = W at *
  obtain ⟨z0, z1, z2⟩ := HW.out.2.1
  have hc := HW.out.2.2
  have hl2 := World.block_lt_of_cell? _ _ hc
  have hl3 := World.block_lt_of_cell? _ _ z0
  go_region
  all_goals (
    go_wp2
    refine bodyPost_ret (v := .tuple #[.agg #[.string ⟨#[]⟩, .slice none 0 0], .int .i64 e]) (by simp [results, Try.results23, go_sem, z0, z1]) rfl ⟨rfl, ?_⟩
    first
      | exact below_twoC (o := 0) HW.out.1.drew (Nat.le_refl _)
      | exact (below_twoC (o := 0) HW.out.1.drew (Nat.le_refl _)).drew)
set_option maxRecDepth 100000 in
set_option maxHeartbeats 400000 in
theorem Read_e2 (v : Value) (l : BB) (w : World) (h : V.ReadsV w v l) (d : Df) (r : BB) (he : defE l = .ok (d, r)) (hr : r ≠ []) : Calls Try.prog 23 #[v] w fun en w' => en = .returned (.tuple #[.agg #[.string ⟨#[]⟩, .slice none 0 0], .int .i64 (3)]) ∧ Below w.heap.size w w' := by
  have h' := h
  obtain ⟨a, c, rfl, _⟩ := h'
  have HN : Hid (Calls Try.prog 48 #[.pointer (some ⟨w.heap.size + 1, 0, none⟩)] ((w.alloc (.cells #[.string ⟨#[]⟩, .slice none 0 0] 24)).alloc (.cells #[.slice a l.length c, .int .i64 0] 63)) fun en w' => ∃ str ra rl rc qa qn qc, en = .returned (.agg #[.string str, .slice ra rl rc]) ∧ w'.cell? ⟨w.heap.size + 1, 1, none⟩ = some (.int .i64 0) ∧ w'.cell? ⟨w.heap.size + 1, 0, none⟩ = some (.slice qa (qn + 1) qc) ∧ qn < 9223372036854775807 ∧ Below w.heap.size w w' ∧ Cell2 w' w.heap.size (.string ⟨#[]⟩) (.slice none 0 0)) := by
    refine (def_new l a c w h).mono ?_
    rintro en w' ⟨d', s', str, ra, rl, rc, qa, qc, rfl, h1, h2, h3, h4, h5, h6, h9, h7, h8⟩
    obtain ⟨rfl, rfl⟩ := after_ok h4 he
    cases r with
    | nil => exact absurd rfl hr
    | cons x r => exact ⟨_, _, _, _, qa, r.length, qc, rfl, h5, h6, by simp at h9; omega, h7, h8⟩
  clear he hr
  clear h
  generalize l.length = nl at *
  go_enter Try.func23, Try.ntmps23
  go_wp2_with (go_at_call 48; refine HN.out.mono ?_; rintro en w2 ⟨str, ra, rl, rc, qa, qn, qc, rfl, hc, hc0, hqn, hB, hC⟩; obtain ⟨z0, z1, z2⟩ := hC; have HB2 : Hid (Below w.heap.size w w2) := hB; have hl2 := World.block_lt_of_cell? _ _ hc; have hl3 := World.block_lt_of_cell? _ _ z0; clear hB)
  have C : Cell2 (((w2.setCell ⟨w.heap.size, 0, none⟩ (.string ⟨#[]⟩)).setCell ⟨w.heap.size, 1, none⟩ (.slice none 0 0)).alloc (.cells #[.string str, .slice ra rl rc] 24)) w.heap.size (.string ⟨#[]⟩) (.slice none 0 0) := ((Cell2.put (v0 := .string ⟨#[]⟩) (v1 := .slice none 0 0) ⟨z0, z1, z2⟩ 0 (.string ⟨#[]⟩)).put 1 (.slice none 0 0)).alloc _
  obtain ⟨y0, y1, y2⟩ := C
  refine bodyPost_ret (v := .tuple #[.agg #[.string ⟨#[]⟩, .slice none 0 0], .int .i64 3]) (by simp [results, Try.results23, go_sem, y0, y1]) rfl ⟨rfl, ?_⟩
  exact (below_twoC (o := 0) HB2.out (Nat.le_refl _)).alloc (by simp [World.setCell]; exact HB2.out.size) _
set_option maxRecDepth 100000 in
set_option maxHeartbeats 400000 in
theorem Read_e3 (v : Value) (l : BB) (w : World) (h : V.ReadsV w v l) (d : Df) (he : defE l = .ok (d, [])) (hc0 : checkD d ≠ 0) : Calls Try.prog 23 #[v] w fun en w' => en = .returned (.tuple #[.agg #[.string ⟨#[]⟩, .slice none 0 0], .int .i64 (checkD d : Nat)]) ∧ Below w.heap.size w w' := by
  have h' := h
  obtain ⟨a, c, rfl, _⟩ := h'
  have HN : Hid (Calls Try.prog 48 #[.pointer (some ⟨w.heap.size + 1, 0, none⟩)] ((w.alloc (.cells #[.string ⟨#[]⟩, .slice none 0 0] 24)).alloc (.cells #[.slice a l.length c, .int .i64 0] 63)) fun en w' => ∃ ra rc qa qc, en = .returned (.agg #[.string (ba d.id), .slice ra d.places.length rc]) ∧ w'.cell? ⟨w.heap.size + 1, 1, none⟩ = some (.int .i64 0) ∧ w'.cell? ⟨w.heap.size + 1, 0, none⟩ = some (.slice qa 0 qc) ∧ Below w.heap.size w w' ∧ Cell2 w' w.heap.size (.string ⟨#[]⟩) (.slice none 0 0) ∧ DfV w' (fun g => w.heap.size + 2 ≤ g) d ra rc) := by
    refine (def_new l a c w h).mono ?_
    rintro en w' ⟨d', s', str, ra, rl, rc, qa, qc, rfl, h1, h2, h3, h4, h5, h6, h9, h7, h8⟩
    obtain ⟨rfl, rfl⟩ := after_ok h4 he
    subst h1; subst h2
    exact ⟨_, _, qa, qc, rfl, h5, h6, h7, h8, h3⟩
  have HC : Hid (∀ ra rc w1, DfV w1 (fun g => w.heap.size + 2 ≤ g) d ra rc → Calls Try.prog 11 #[.agg #[.string (ba d.id), .slice ra d.places.length rc]] w1 fun e w' => e = .returned (.int .i64 (checkD d : Nat)) ∧ Below w1.heap.size w1 w') := fun ra rc w1 q => by
    have := MCheck_any _ d ra rc w1 q
    exact this
  clear he
  generalize checkD d = ck at *
  have hck : ¬ (ck : Int) = 0 := by omega
  generalize hds : ba d.id = ds at *
  generalize hpl : d.places.length = pl at *
  clear h
  generalize l.length = nl at *
  go_enter Try.func23, Try.ntmps23
  go_wp2_with (first
    | (go_at_call 11; have := H2; refine (HC.out _ _ _ (H2.out.2.2.kept (kept_below ((Below.refl _ _).alloc (Nat.le_refl _) _)))).mono ?_; rintro en w3 ⟨rfl, q1⟩; obtain ⟨y0, y1, y2⟩ := (H2.out.2.1.alloc _).below q1; obtain ⟨x0, x1, x2⟩ := (Cell2.new w2 (.string ds) (.slice ra pl rc) 24).below q1; have H3 : Hid (Below w.heap.size w w3 ∧ DfV w3 (fun g => w.heap.size + 2 ≤ g) d ra rc) := ⟨H2.out.1.trans ((below_new q1).mono H2.out.1.size), H2.out.2.2.kept (kept_below (below_new q1))⟩; have hl5 := World.block_lt_of_cell? _ _ y0; have hl6 := World.block_lt_of_cell? _ _ x0; clear q1 H2)
    | (go_at_call 48; refine HN.out.mono ?_; rintro en w2 ⟨ra, rc, qa, qc, rfl, hc, hcr, hB, hC, hD⟩; obtain ⟨z0, z1, z2⟩ := hC; have H2 : Hid (Below w.heap.size w w2 ∧ Cell2 w2 w.heap.size (.string ⟨#[]⟩) (.slice none 0 0) ∧ DfV w2 (fun g => w.heap.size + 2 ≤ g) d ra rc) := ⟨hB, ⟨z0, z1, z2⟩, hD⟩; have hl2 := World.block_lt_of_cell? _ _ hc; have hl3 := World.block_lt_of_cell? _ _ z0; clear hB hD))
  refine bodyPost_ret (v := .tuple #[.agg #[.string ⟨#[]⟩, .slice none 0 0], .int .i64 (ck : Nat)]) (by simp [results, Try.results23, go_sem, y0, y1]) rfl ⟨rfl, ?_⟩
  exact below_twoC (o := 0) H3.out.1 (Nat.le_refl _)
set_option maxRecDepth 100000 in
set_option maxHeartbeats 400000 in
theorem Read_o (v : Value) (l : BB) (w : World) (h : V.ReadsV w v l) (d : Df) (he : defE l = .ok (d, [])) (hc0 : checkD d = 0) : Calls Try.prog 23 #[v] w fun en w' => ∃ ra rc, en = .returned (.tuple #[.agg #[.string (ba d.id), .slice ra d.places.length rc], .int .i64 0]) ∧ DfV w' (fun g => w.heap.size ≤ g) d ra rc ∧ Below w.heap.size w w' := by
  have h' := h
  obtain ⟨a, c, rfl, _⟩ := h'
  have HN : Hid (Calls Try.prog 48 #[.pointer (some ⟨w.heap.size + 1, 0, none⟩)] ((w.alloc (.cells #[.string ⟨#[]⟩, .slice none 0 0] 24)).alloc (.cells #[.slice a l.length c, .int .i64 0] 63)) fun en w' => ∃ ra rc qa qc, en = .returned (.agg #[.string (ba d.id), .slice ra d.places.length rc]) ∧ w'.cell? ⟨w.heap.size + 1, 1, none⟩ = some (.int .i64 0) ∧ w'.cell? ⟨w.heap.size + 1, 0, none⟩ = some (.slice qa 0 qc) ∧ Below w.heap.size w w' ∧ Cell2 w' w.heap.size (.string ⟨#[]⟩) (.slice none 0 0) ∧ DfV w' (fun g => w.heap.size + 2 ≤ g) d ra rc) := by
    refine (def_new l a c w h).mono ?_
    rintro en w' ⟨d', s', str, ra, rl, rc, qa, qc, rfl, h1, h2, h3, h4, h5, h6, h9, h7, h8⟩
    obtain ⟨rfl, rfl⟩ := after_ok h4 he
    subst h1; subst h2
    exact ⟨_, _, qa, qc, rfl, h5, h6, h7, h8, h3⟩
  have HC : Hid (∀ ra rc w1, DfV w1 (fun g => w.heap.size + 2 ≤ g) d ra rc → Calls Try.prog 11 #[.agg #[.string (ba d.id), .slice ra d.places.length rc]] w1 fun e w' => e = .returned (.int .i64 (0)) ∧ Below w1.heap.size w1 w') := fun ra rc w1 q => by
    have := MCheck_any _ d ra rc w1 q
    rw [hc0] at this; exact this
  clear he
  generalize hds : ba d.id = ds at *
  generalize hpl : d.places.length = pl at *
  clear h
  generalize l.length = nl at *
  go_enter Try.func23, Try.ntmps23
  go_wp2_with (first
    | (go_at_call 11; have := H2; refine (HC.out _ _ _ (H2.out.2.2.kept (kept_below ((Below.refl _ _).alloc (Nat.le_refl _) _)))).mono ?_; rintro en w3 ⟨rfl, q1⟩; obtain ⟨y0, y1, y2⟩ := (H2.out.2.1.alloc _).below q1; obtain ⟨x0, x1, x2⟩ := (Cell2.new w2 (.string ds) (.slice ra pl rc) 24).below q1; have H3 : Hid (Below w.heap.size w w3 ∧ DfV w3 (fun g => w.heap.size + 2 ≤ g) d ra rc) := ⟨H2.out.1.trans ((below_new q1).mono H2.out.1.size), H2.out.2.2.kept (kept_below (below_new q1))⟩; have hl5 := World.block_lt_of_cell? _ _ y0; have hl6 := World.block_lt_of_cell? _ _ x0; clear q1 H2)
    | (go_at_call 48; refine HN.out.mono ?_; rintro en w2 ⟨ra, rc, qa, qc, rfl, hc, hcr, hB, hC, hD⟩; obtain ⟨z0, z1, z2⟩ := hC; have H2 : Hid (Below w.heap.size w w2 ∧ Cell2 w2 w.heap.size (.string ⟨#[]⟩) (.slice none 0 0) ∧ DfV w2 (fun g => w.heap.size + 2 ≤ g) d ra rc) := ⟨hB, ⟨z0, z1, z2⟩, hD⟩; have hl2 := World.block_lt_of_cell? _ _ hc; have hl3 := World.block_lt_of_cell? _ _ z0; clear hB hD))
  refine bodyPost_ret (v := .tuple #[.agg #[.string ds, .slice ra pl rc], .int .i64 0]) (by simp [results, Try.results23, go_sem, y0, y1]) rfl ⟨_, _, rfl, ?_, below_twoC (o := 0) H3.out.1 (Nat.le_refl _)⟩
  exact H3.out.2.kept fun g hg _ => ⟨two_other (M := w.heap.size) (o := 0) (by omega), by omega⟩
theorem Read_err (v : Value) (l : BB) (w : World) (h : V.ReadsV w v l) (e : Nat) (he : readE l = .error e) : Calls Try.prog 23 #[v] w fun en w' => en = .returned (.tuple #[.agg #[.string ⟨#[]⟩, .slice none 0 0], .int .i64 (e : Nat)]) ∧ Below w.heap.size w w' := by
  unfold readE at he
  cases hd : defE l with
  | error c =>
    rw [hd] at he
    cases he
    exact Read_e1 v l w h _ hd
  | ok dr =>
    obtain ⟨d, r⟩ := dr
    rw [hd] at he
    simp only at he
    split at he
    · rename_i hr
      cases he
      exact Read_e2 v l w h d r hd hr
    · rename_i hr
      have hr0 : r = [] := by simpa using hr
      subst hr0
      split at he
      · rename_i hc
        cases he
        exact Read_e3 v l w h d hd hc
      · cases he
theorem Read_ok (v : Value) (l : BB) (w : World) (h : V.ReadsV w v l) (d : Df) (he : readE l = .ok d) : Calls Try.prog 23 #[v] w fun en w' => ∃ ra rc, en = .returned (.tuple #[.agg #[.string (ba d.id), .slice ra d.places.length rc], .int .i64 0]) ∧ DfV w' (fun g => w.heap.size ≤ g) d ra rc ∧ Below w.heap.size w w' := by
  unfold readE at he
  cases hd : defE l with
  | error c => rw [hd] at he; cases he
  | ok dr =>
    obtain ⟨d', r⟩ := dr
    rw [hd] at he
    simp only at he
    split at he
    · cases he
    · rename_i hr
      have hr0 : r = [] := by simpa using hr
      subst hr0
      split at he
      · cases he
      · rename_i hc
        cases he
        exact Read_o v l w h d hd (by simpa using hc)
end
end Go.Proofs.Ytjafjheffbbkmaa
