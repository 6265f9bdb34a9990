/-
  The program's node: the rest of it.
-/
import Derived.Test.YtjafjheffbbkmaaRdC
namespace Go.Proofs.Ytjafjheffbbkmaa
open Go.RowKit
set_option linter.unusedVariables false

theorem Cell4.put {w : World} {b : Nat} {v0 v1 v2 v3 : Value} (h : Cell4 w b v0 v1 v2 v3) (j : Nat) (x : Value) : Cell4 (w.setCell ⟨b, j, none⟩ x) b (if j = 0 then x else v0) (if j = 1 then x else v1) (if j = 2 then x else v2) (if j = 3 then x else v3) :=
  ⟨cell_set h.c0, cell_set h.c1, cell_set h.c2, cell_set h.c3, fun i => by simp only [World.frozen?_setCell]; exact h.free i⟩
theorem Cell4.far {w : World} {b : Nat} {v0 v1 v2 v3 : Value} (h : Cell4 w b v0 v1 v2 v3) {p : Addr} (hp : b ≠ p.block) (x : Value) : Cell4 (w.setCell p x) b v0 v1 v2 v3 := by
  have e := Below.heap_setCell w p x b hp
  exact ⟨(cell_kept e _).trans h.c0, (cell_kept e _).trans h.c1, (cell_kept e _).trans h.c2, (cell_kept e _).trans h.c3, fun i => by simp only [World.frozen?_setCell]; exact h.free i⟩
theorem Cell4.under {w w' : World} {B b : Nat} {v0 v1 v2 v3 : Value} (h : Cell4 w b v0 v1 v2 v3) (hb : b < B) (hf : Below B w w') : Cell4 w' b v0 v1 v2 v3 :=
  have e := hf.block b hb
  ⟨(cell_kept e _).trans h.c0, (cell_kept e _).trans h.c1, (cell_kept e _).trans h.c2, (cell_kept e _).trans h.c3, fun i => by have := h.free i; simp only [World.frozen?] at this ⊢; rw [e]; exact this⟩
/-- What lies where while the kids are read. -/
structure Nd (w wr : World) (rb xb : Nat) (s : Sst) (k n str kv : Value) (ts : List Tr) : Prop where
  fr : Fr rb w wr
  rst : Rst wr rb s
  rbl : rb < w.heap.size
  r : Cell4 wr w.heap.size (.int .i64 0) (.int .i64 0) (.string ⟨#[]⟩) (.slice none 0 0)
  lo : w.heap.size < xb
  x : Cell4 wr xb k n str kv
  kin : Gw treeR 31 4 wr (xb + 1) kv ts
theorem Nd.size {w wr : World} {rb xb : Nat} {s : Sst} {k n str kv : Value} {ts : List Tr} (h : Nd w wr rb xb s k n str kv ts) : xb + 1 ≤ wr.heap.size := h.x.lt
theorem Nd.then {w wr w3 : World} {rb xb : Nat} {s s3 : Sst} {k n str kv : Value} {ts : List Tr} (h : Nd w wr rb xb s k n str kv ts) (hr : Rst w3 rb s3) (hf : Fr rb wr w3) : Nd w w3 rb xb s3 k n str kv ts :=
  have h1 := h.rbl
  have h2 := h.lo
  ⟨h.fr.trans hf, hr, h.rbl, h.r.fr hf (by omega), h.lo, h.x.fr hf (by omega), h.kin.fr treeR_kept hf (by omega)⟩
theorem Nd.drew {w wr : World} {rb xb : Nat} {s : Sst} {k n str kv : Value} {ts : List Tr} (h : Nd w wr rb xb s k n str kv ts) : Nd w wr.drew rb xb s k n str kv ts :=
  h.then (h.rst.kept fun _ _ => rfl) (.of_below (Below.drew (Below.refl _ _)))
theorem Nd.next {w w3 w5 : World} {rb xb : Nat} {s : Sst} {k n str kv v5 : Value} {ts ts' : List Tr} {o : Obj} (h : Nd w w3 rb xb s k n str kv ts) (h5 : Gw treeR 31 4 w5 (xb + 1) v5 ts') (hg : (w3.alloc o).grownBy w5 kv.ownBlock) :
    Cell4 w5 xb k n str kv ∧ Nd w (w5.setCell ⟨xb, 3, none⟩ v5) rb xb s k n str v5 ts' := by
  have hs := h.size
  have h1 := h.rbl
  have h2 := h.lo
  have hB : Below (xb + 1) w3 w5 := ((Below.refl _ _).alloc hs _).grown hg (Nat.le_trans hs (le_alloc _ _)) h.kin.own
  have hy := h.x.under (Nat.lt_succ_self _) hB
  refine ⟨hy, ?_, (h.rst.below hB (by omega)).set (p := ⟨xb, 3, none⟩) (by show rb < xb; omega) _, h.rbl, ?_, h.lo, hy.put 3 _, h5.set treeR_kept (by show xb < xb + 1; omega) _⟩
  · have hf : Fr rb w w5 := ⟨hB.os.trans h.fr.os, hB.tape.trans h.fr.tape, hB.output.trans h.fr.output, Nat.le_trans h.fr.size hB.size, fun q hq hne => (hB.block q (by omega)).trans (h.fr.block q hq hne)⟩
    exact hf.setCell (p := ⟨xb, 3, none⟩) (.inr (by show w.heap.size ≤ xb; omega)) _
  · exact (h.r.under (by omega) hB).far (by show w.heap.size ≠ xb; omega) _
theorem leaf_next {w w2 w3 : World} {rb : Nat} {s2 : Sst} {m : Value} (h2 : Fr rb w w2) (z2 : Cell4 w2 w.heap.size (.int .i64 0) (.int .i64 0) (.string ⟨#[]⟩) (.slice none 0 0)) (q2 : Rst w3 rb s2) (q3 : Fr rb (w2.alloc (.cells #[m, .int .i64 0, .string ⟨#[]⟩, .slice none 0 0] 31)) w3) (hlt : rb < w.heap.size) (j : Nat) (x : Value) {W : World} (hW : W = w3.setCell ⟨w2.heap.size, j, none⟩ x) :
    Rst W rb s2 ∧ Fr rb w W ∧ Cell4 W w.heap.size (.int .i64 0) (.int .i64 0) (.string ⟨#[]⟩) (.slice none 0 0) ∧ Cell4 W w2.heap.size (if j = 0 then x else m) (if j = 1 then x else .int .i64 0) (if j = 2 then x else .string ⟨#[]⟩) (if j = 3 then x else .slice none 0 0) := by
  have hl2 : w.heap.size < w2.heap.size := z2.lt
  have y := (Cell4.new w2 m (.int .i64 0) (.string ⟨#[]⟩) (.slice none 0 0) 31).fr q3 (by omega)
  subst hW
  exact ⟨q2.set (p := ⟨w2.heap.size, j, none⟩) (by show rb < w2.heap.size; omega) _, ((h2.alloc _).trans q3).setCell (p := ⟨w2.heap.size, j, none⟩) (.inr (Nat.le_of_lt hl2)) _, ((z2.alloc _).fr q3 (by omega)).far (by show w.heap.size ≠ w2.heap.size; omega) _, y.put j _⟩
set_option maxRecDepth 100000 in
set_option maxHeartbeats 800000 in
theorem node_num (d deep : Nat) (hd : d + 1 + deep = 17) (rb : Nat) (s : Sst) (w : World) (hR : Rst w rb s) (hx : hdS s = 1) : Calls Try.prog 69 #[.pointer (some ⟨rb, 0, none⟩), .int .i64 deep] w (NodeP (treeE (d + 1)) rb s w) := by
  have hlt := hR.lt
  have h16 : deep ≤ 16 := by omega
  have HT : Hid (∀ o, Calls Try.prog 91 #[.pointer (some ⟨rb, 0, none⟩), .func (.func 92) #[] #[]] (w.alloc o) fun e w' => e = .returned (.int .u8 1) ∧ Rst w' rb (tlS s) ∧ Fr rb (w.alloc o) w') := fun o => by
    have := takeByte_det rb s _ (hR.alloc o)
    rw [hx] at this; exact this
  have HI : Hid (∀ w1, Rst w1 rb (tlS s) → Calls Try.prog 93 #[.pointer (some ⟨rb, 0, none⟩), .func (.func 94) #[] #[]] w1 fun e w' => ∃ x s', (e = .returned (.int .i64 x) ∧ InR x) ∧ After intE (tlS s) x s' ∧ Rst w' rb s' ∧ Fr rb w1 w') := fun w1 q => takeInt_any rb (tlS s) w1 q
  have HA : Hid (∀ n s2, After intE (tlS s) n s2 → After (treeE (d + 1)) s ⟨1, n, [], []⟩ s2) := fun n s2 q => (after_byte hR.nil).bind (by rw [hx, if_neg (by omega), if_pos rfl]; exact q.bind (After.pure _ _))
  have HK : Hid (∀ w, Calls Try.prog 95 #[.int .i64 1] w fun e w' => e = .returned (.int .i64 0) ∧ w' = w) := fun w => kidsOf_any 1 w
  have hn1 : w.heap.size ≠ rb := by omega
  clear hR hx
  generalize tlS s = s1 at *
  go_enter Try.func69, Try.ntmps69
  go_wp2_with (first
    | (go_at_call 95; have := H3; refine (HK.out _).mono ?_; rintro e w9 ⟨rfl, h9⟩; have h10 := h9.symm; clear h9; subst h10)
    | (go_at_call 93; have := H2; refine (HI.out _ (H2.out.1.alloc _)).mono ?_; rintro e w3 ⟨n, s2, ⟨rfl, hn⟩, q1, q2, q3⟩; obtain ⟨y0, y1, y2, y3, y4⟩ := (Cell4.new w2 (.int .i64 1) (.int .i64 0) (.string ⟨#[]⟩) (.slice none 0 0) 31).fr q3 (Nat.ne_of_gt (Nat.lt_trans hlt hl2)); have hly : w2.heap.size < w3.heap.size := World.block_lt_of_cell? w3 _ y0; obtain ⟨W3, hW3⟩ : ∃ W, W = w3.setCell ⟨w2.heap.size, 1, none⟩ (.int .i64 n) := ⟨_, rfl⟩; have HW3 : Hid (W3 = w3.setCell ⟨w2.heap.size, 1, none⟩ (.int .i64 n)) := hW3; have H3 : Hid (Rst W3 rb s2 ∧ Fr rb w W3 ∧ Cell4 W3 w.heap.size (.int .i64 0) (.int .i64 0) (.string ⟨#[]⟩) (.slice none 0 0) ∧ Cell4 W3 w2.heap.size (.int .i64 1) (.int .i64 n) (.string ⟨#[]⟩) (.slice none 0 0) ∧ After (treeE (d + 1)) s ⟨1, n, [], []⟩ s2 ∧ ∀ w P, Tre w P (.agg #[.int .i64 1, .int .i64 n, .string ⟨#[]⟩, .slice none 0 0]) ⟨1, n, [], []⟩) := ⟨(leaf_next H2.out.2.1 H2.out.2.2 q2 q3 hlt 1 _ hW3).1, (leaf_next H2.out.2.1 H2.out.2.2 q2 q3 hlt 1 _ hW3).2.1, (leaf_next H2.out.2.1 H2.out.2.2 q2 q3 hlt 1 _ hW3).2.2.1, (leaf_next H2.out.2.1 H2.out.2.2 q2 q3 hlt 1 _ hW3).2.2.2, HA.out _ _ q1, fun w P => Tre.leaf w P ⟨by decide, by decide⟩ hn [] (by decide)⟩; clear q1 q2 q3 hW3 H2)
    | (go_at_call 91; refine (HT.out _).mono ?_; rintro e w2 ⟨rfl, q1, q2⟩; have H2 : Hid (Rst w2 rb s1 ∧ Fr rb w w2 ∧ Cell4 w2 w.heap.size (.int .i64 0) (.int .i64 0) (.string ⟨#[]⟩) (.slice none 0 0)) := ⟨q1, ((Fr.refl _ _).alloc _).trans q2, (Cell4.new w _ _ _ _ 31).fr q2 hn1⟩; have hl2 : w.heap.size < w2.heap.size := H2.out.2.2.lt; clear q1 q2))
  go_loopw [40] (fun v wr => v = .int .i64 0 ∧ W3 = wr) (fun _ _ => 0)
  case atStart => exact ⟨rfl, HW3.out⟩
  case round =>
    obtain ⟨rfl, rfl⟩ := hrel
    obtain ⟨x0, x1, x2, x3, x4⟩ := H3.out.2.2.2.1
    obtain ⟨z0, z1, z2, z3, z4⟩ := H3.out.2.2.1
    have hlx := H3.out.2.2.2.1.lt
    go_wp2
    refine bodyPost_ret (v := .agg #[.int .i64 1, .int .i64 n, .string ⟨#[]⟩, .slice none 0 0]) (by simp [results, Try.results69, go_sem, z0, z1, z2, z3]) rfl ⟨_, _, _, _, _, _, _, _, rfl, H3.out.2.2.2.2.2 _ _, H3.out.2.2.2.2.1, four_rst (o := 0) H3.out.1 hlt, four_fr (o := 0) H3.out.2.1 (Nat.le_refl _)⟩
set_option maxRecDepth 100000 in
set_option maxHeartbeats 800000 in
theorem node_var (d deep : Nat) (hd : d + 1 + deep = 17) (rb : Nat) (s : Sst) (w : World) (hR : Rst w rb s) (hx : hdS s = 2) : Calls Try.prog 69 #[.pointer (some ⟨rb, 0, none⟩), .int .i64 deep] w (NodeP (treeE (d + 1)) rb s w) := by
  have hlt := hR.lt
  have h16 : deep ≤ 16 := by omega
  have HT : Hid (∀ o, Calls Try.prog 91 #[.pointer (some ⟨rb, 0, none⟩), .func (.func 92) #[] #[]] (w.alloc o) fun e w' => e = .returned (.int .u8 2) ∧ Rst w' rb (tlS s) ∧ Fr rb (w.alloc o) w') := fun o => by
    have := takeByte_det rb s _ (hR.alloc o)
    rw [hx] at this; exact this
  have HI : Hid (∀ w1, Rst w1 rb (tlS s) → Calls Try.prog 79 #[.pointer (some ⟨rb, 0, none⟩)] w1 fun e w' => ∃ x s', e = .returned (.string (ba (bn x))) ∧ x.length ≤ 9223372036854775807 ∧ After textE (tlS s) x s' ∧ Rst w' rb s' ∧ Fr rb w1 w') := fun w1 q => text_any rb (tlS s) w1 q
  have HA : Hid (∀ n s2, After textE (tlS s) n s2 → After (treeE (d + 1)) s ⟨2, 0, bn n, []⟩ s2) := fun n s2 q => (after_byte hR.nil).bind (by rw [hx, if_neg (by omega), if_neg (by omega), if_pos rfl]; exact q.bind (After.pure _ _))
  have HK : Hid (∀ w, Calls Try.prog 95 #[.int .i64 2] w fun e w' => e = .returned (.int .i64 0) ∧ w' = w) := fun w => kidsOf_any 2 w
  have hn1 : w.heap.size ≠ rb := by omega
  clear hR hx
  generalize tlS s = s1 at *
  go_enter Try.func69, Try.ntmps69
  go_wp2_with (first
    | (go_at_call 95; have := H3; refine (HK.out _).mono ?_; rintro e w9 ⟨rfl, h9⟩; have h10 := h9.symm; clear h9; subst h10)
    | (go_at_call 79; have := H2; refine (HI.out _ (H2.out.1.alloc _)).mono ?_; rintro e w3 ⟨n, s2, rfl, hn, q1, q2, q3⟩; obtain ⟨y0, y1, y2, y3, y4⟩ := (Cell4.new w2 (.int .i64 2) (.int .i64 0) (.string ⟨#[]⟩) (.slice none 0 0) 31).fr q3 (Nat.ne_of_gt (Nat.lt_trans hlt hl2)); have hly : w2.heap.size < w3.heap.size := World.block_lt_of_cell? w3 _ y0; have HTr : Hid (∀ w P, Tre w P (.agg #[.int .i64 2, .int .i64 0, .string (ba (bn n)), .slice none 0 0]) ⟨2, 0, bn n, []⟩) := (fun w P => Tre.leaf w P ⟨by decide, by decide⟩ inR_zero (bn n) (by rw [bn_len]; exact hn)); generalize hST : ba (bn n) = st at *; obtain ⟨W3, hW3⟩ : ∃ W, W = w3.setCell ⟨w2.heap.size, 2, none⟩ (.string st) := ⟨_, rfl⟩; have HW3 : Hid (W3 = w3.setCell ⟨w2.heap.size, 2, none⟩ (.string st)) := hW3; have H3 : Hid (Rst W3 rb s2 ∧ Fr rb w W3 ∧ Cell4 W3 w.heap.size (.int .i64 0) (.int .i64 0) (.string ⟨#[]⟩) (.slice none 0 0) ∧ Cell4 W3 w2.heap.size (.int .i64 2) (.int .i64 0) (.string st) (.slice none 0 0) ∧ After (treeE (d + 1)) s ⟨2, 0, bn n, []⟩ s2 ∧ ∀ w P, Tre w P (.agg #[.int .i64 2, .int .i64 0, .string st, .slice none 0 0]) ⟨2, 0, bn n, []⟩) := ⟨(leaf_next H2.out.2.1 H2.out.2.2 q2 q3 hlt 2 _ hW3).1, (leaf_next H2.out.2.1 H2.out.2.2 q2 q3 hlt 2 _ hW3).2.1, (leaf_next H2.out.2.1 H2.out.2.2 q2 q3 hlt 2 _ hW3).2.2.1, (leaf_next H2.out.2.1 H2.out.2.2 q2 q3 hlt 2 _ hW3).2.2.2, HA.out _ _ q1, HTr.out⟩; clear q1 q2 q3 hW3 H2 hST HTr)
    | (go_at_call 91; refine (HT.out _).mono ?_; rintro e w2 ⟨rfl, q1, q2⟩; have H2 : Hid (Rst w2 rb s1 ∧ Fr rb w w2 ∧ Cell4 w2 w.heap.size (.int .i64 0) (.int .i64 0) (.string ⟨#[]⟩) (.slice none 0 0)) := ⟨q1, ((Fr.refl _ _).alloc _).trans q2, (Cell4.new w _ _ _ _ 31).fr q2 hn1⟩; have hl2 : w.heap.size < w2.heap.size := H2.out.2.2.lt; clear q1 q2))
  go_loopw [40] (fun v wr => v = .int .i64 0 ∧ W3 = wr) (fun _ _ => 0)
  case atStart => exact ⟨rfl, HW3.out⟩
  case round =>
    obtain ⟨rfl, rfl⟩ := hrel
    obtain ⟨x0, x1, x2, x3, x4⟩ := H3.out.2.2.2.1
    obtain ⟨z0, z1, z2, z3, z4⟩ := H3.out.2.2.1
    have hlx := H3.out.2.2.2.1.lt
    go_wp2
    refine bodyPost_ret (v := .agg #[.int .i64 2, .int .i64 0, .string st, .slice none 0 0]) (by simp [results, Try.results69, go_sem, z0, z1, z2, z3]) rfl ⟨_, _, _, _, _, _, _, _, rfl, H3.out.2.2.2.2.2 _ _, H3.out.2.2.2.2.1, four_rst (o := 0) H3.out.1 hlt, four_fr (o := 0) H3.out.2.1 (Nat.le_refl _)⟩
end Go.Proofs.Ytjafjheffbbkmaa
