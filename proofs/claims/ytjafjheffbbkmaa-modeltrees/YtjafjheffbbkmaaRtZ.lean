/-
  The document's tree (11.7): contracts.
-/
import Derived.Test.YtjafjheffbbkmaaRdZ
import Derived.Test.YtjafjheffbbkmaaVRefs2
import Derived.Test.YtjafjheffbbkmaaNode
namespace Go.Proofs.Ytjafjheffbbkmaa
section
open Go.RowKit
open V.Pack (byte urow zz unzz rd rd0_ok rd0_urow urow_len unzz_zz zz_unzz zz_lt byte_nat val_urow)
set_option linter.unusedVariables false

/-- Appending one more, in a plain region. -/
theorem list_gw {α : Type} {R : Rdr α} (hR : KeptR R) (sl el sz bt : Nat) (z : Value) {ops : Array Oper} {rest : List Oper} {o : Oper} {a : Act} {Q : Exit → Act → World → Prop} {wX : World} (hgd : o.guard = none) (s x : Operand)
    (ho : o.op = .call { callee := .builtin .append, args := #[s, x], argTypes := #[sl, sl] }) (hu : Try.prog.underlying sl = some (.slice el)) (hinfo : (Try.prog.info? el).map (fun i => (i.zero, i.size, i.bytes)) = some (some z, sz, bt)) (hzc : z.cells.size = sz) (hsz : 0 < sz) (hbt : bt ≤ 100)
    {B g : Nat} {v : Value} {cs : Array Value} {ts : List α} {y : α} (hl : Gw R el sz wX B v ts) (hcs : cs.toList.length = sz) (hone : ∀ u ∈ cs.toList, u.oneCell' = true) (hy : R wX (fun g => B ≤ g ∧ v.ownBlock ≠ some g) cs.toList y) (hbase : B ≤ wX.heap.size) (hs : a.eval s = v) (hx : a.eval x = .slice (some ⟨g, 0, none⟩) 1 1) (hg : g = wX.heap.size) (hlen : ts.length ≤ 1048576)
    (h : ∀ v' w', Gw R el sz w' B v' (ts ++ [y]) → (wX.alloc (.cells cs el)).grownBy w' v.ownBlock → wpList Try.prog ops Q rest (a.put o.dst v') w') : wpList Try.prog ops Q (o :: rest) a (wX.alloc (.cells cs el)) := by
  subst hg
  obtain ⟨i, hi, hz, hsize, hby⟩ := info_parts hinfo
  obtain ⟨xs, h1, h2⟩ := hl
  have hmul : (ts.length + 1) * bt ≤ 1048577 * 100 := Nat.mul_le_mul (by omega) hbt
  obtain ⟨v', w', hr, q2, q3, q4, q5⟩ := run_append_own_at (P := Try.prog) (wX.alloc (.cells cs el)) B sl o.type el i z sz bt hu hi hz hsize hby hzc hsz v ts.length xs (World.ownsRow.alloc h1 _) ⟨wX.heap.size, 0, none⟩ 1 1 cs.toList (by rw [hcs, Nat.one_mul])
    (fun j u hj => by rw [V.add_plain, Nat.zero_add, cell_of_row _ wX.heap.size j _ el (0, 0) (heap_alloc_new wX _)]; simpa using hj) hone (by unfold maxLen; omega) (by omega) (by rw [size_alloc]; omega)
  refine wpList_plain hgd fun K hK => ?_
  unfold Oper.wp execOp
  simp only [ho, resolve, invoke, builtin, Sem.run_bind, Sem.run_pure, Result.andThen_ok, List.map_toArray, List.map_cons, List.map_nil, hs, hx, hr]
  refine hK _ _ (h v' w' ?_ q3)
  exact Gw.add hR (World.ownsRow.alloc h1 _) (fun j hj => hR _ _ _ _ _ _ (h2 j hj) fun g hg hlt => ⟨heap_alloc_old _ _ hlt, hg⟩) hcs (hR _ _ _ _ _ _ hy fun g hg hlt => ⟨heap_alloc_old _ _ hlt, hg⟩) q2 q3 q5
theorem list_tree {ops : Array Oper} {rest : List Oper} {o : Oper} {a : Act} {Q : Exit → Act → World → Prop} {wX : World} (hgd : o.guard = none) (s x : Operand)
    (ho : o.op = .call { callee := .builtin .append, args := #[s, x], argTypes := #[29, 29] }) {B g : Nat} {v : Value} {rk rn : Int} {rs : ByteArray} {ra : Option Addr} {rl rc : Nat} {ts : List Tr} {y : Tr}
    (hl : Gw treeR 31 4 wX B v ts) (hy : Tre wX (fun g => B ≤ g ∧ v.ownBlock ≠ some g) (.agg #[.int .i64 rk, .int .i64 rn, .string rs, .slice ra rl rc]) y) (hbase : B ≤ wX.heap.size) (hs : a.eval s = v) (hx : a.eval x = .slice (some ⟨g, 0, none⟩) 1 1) (hg : g = wX.heap.size) (hlen : ts.length ≤ 1048576)
    (h : ∀ v' w', Gw treeR 31 4 w' B v' (ts ++ [y]) → (wX.alloc (.cells #[.int .i64 rk, .int .i64 rn, .string rs, .slice ra rl rc] 31)).grownBy w' v.ownBlock → wpList Try.prog ops Q rest (a.put o.dst v') w') : wpList Try.prog ops Q (o :: rest) a (wX.alloc (.cells #[.int .i64 rk, .int .i64 rn, .string rs, .slice ra rl rc] 31)) :=
  list_gw treeR_kept 29 31 4 56 _ hgd s x ho Try.underlying29 infoE rfl (by decide) (by decide) hl rfl (by simp [Value.oneCell']) (show treeR wX _ _ y from Exists.intro _ (Exists.intro _ (Exists.intro _ (Exists.intro _ (And.intro rfl hy))))) hbase hs hx hg hlen h
set_option maxRecDepth 100000 in
theorem rkids_some (m : Nat) (w : World) (h3 : 3 ≤ m) (h14 : m ≤ 14) : Calls Try.prog 73 #[.int .i64 m] w fun e w' => e = .returned (.int .i64 (kidsK m : Nat)) ∧ w' = w := by
  by_cases h5 : m < 5
  · have HE : Hid (kidsK m = 0) := by show _ = _; unfold kidsK; rw [if_pos (by omega)]
    have h : m = 3 ∨ m = 4 := by omega
    rcases h with rfl | rfl
    · go_enter Try.func73, Try.ntmps73
      go_wp2
      go_ret
      exact ⟨by rw [HE.out]; rfl, rfl⟩
    · go_enter Try.func73, Try.ntmps73
      go_wp2
      go_ret
      exact ⟨by rw [HE.out]; rfl, rfl⟩
  · by_cases h7 : m < 7
    · have HE : Hid (kidsK m = 1) := by show _ = _; unfold kidsK; rw [if_neg (by omega), if_pos (by omega)]
      have h : m = 5 ∨ m = 6 := by omega
      rcases h with rfl | rfl
      · go_enter Try.func73, Try.ntmps73
        go_wp2
        go_ret
        exact ⟨by rw [HE.out]; rfl, rfl⟩
      · go_enter Try.func73, Try.ntmps73
        go_wp2
        go_ret
        exact ⟨by rw [HE.out]; rfl, rfl⟩
    · have HE : Hid (kidsK m = 2) := by show _ = _; unfold kidsK; rw [if_neg (by omega), if_neg (by omega)]
      have e3 : ((m : Int) == 3) = false := by rw [beq_eq_false_iff_ne]; omega
      have e4 : ((m : Int) == 4) = false := by rw [beq_eq_false_iff_ne]; omega
      have e5 : ((m : Int) == 5) = false := by rw [beq_eq_false_iff_ne]; omega
      have e6 : ((m : Int) == 6) = false := by rw [beq_eq_false_iff_ne]; omega
      go_enter Try.func73, Try.ntmps73
      go_wp2
      go_ret
      exact ⟨by rw [HE.out]; rfl, rfl⟩
set_option maxRecDepth 100000 in
theorem rkids_none (m : Nat) (w : World) (h : m = 0 ∨ 15 ≤ m) : Calls Try.prog 73 #[.int .i64 m] w fun e w' => e = .returned (.int .i64 (-1)) ∧ w' = w := by
  have e3 : ((m : Int) == 3) = false := by rw [beq_eq_false_iff_ne]; omega
  have e4 : ((m : Int) == 4) = false := by rw [beq_eq_false_iff_ne]; omega
  have e5 : ((m : Int) == 5) = false := by rw [beq_eq_false_iff_ne]; omega
  have e6 : ((m : Int) == 6) = false := by rw [beq_eq_false_iff_ne]; omega
  rcases h with rfl | h
  · go_enter Try.func73, Try.ntmps73
    go_wp2
    go_ret
    exact ⟨rfl, rfl⟩
  · go_enter Try.func73, Try.ntmps73
    go_wp2
    go_ret
    exact ⟨rfl, rfl⟩
/-- What the document's tree answers. -/
def RTP (f : Rds Tr) (l : BB) (w : World) (e : Ending) (w' : World) : Prop :=
  ∃ (k n : Int) (s : ByteArray) (a : Option Addr) (ln c kk er : Nat), e = .returned (.tuple #[.agg #[.int .i64 k, .int .i64 n, .string s, .slice a ln c], .int .i64 kk, .int .i64 er]) ∧ Below w.heap.size w w' ∧ kk ≤ l.length + 1000 ∧
    ((∃ t, f l = .ok (t, l.drop kk) ∧ kk ≤ l.length ∧ er = 0 ∧ Tre w' (fun g => w.heap.size ≤ g) (.agg #[.int .i64 k, .int .i64 n, .string s, .slice a ln c]) t) ∨ (f l = .error er ∧ er ≠ 0))
def RTs (d : Nat) : Prop := ∀ (deep : Nat), d + deep = 17 → ∀ (v : Value) (l : BB) (w : World), V.ReadsV w v l → l.length ≤ 1000000 → Calls Try.prog 37 #[v, .int .i64 deep] w (RTP (treeE d) l w)
set_option maxRecDepth 100000 in
theorem rt_zero : RTs 0 := fun deep hd v l w h hl => by
  have hd17 : deep = 17 := by omega
  subst hd17
  have HX : Hid (treeE 0 l = .error 6) := rfl
  clear h hl
  go_enter Try.func37, Try.ntmps37
  go_wp2
  refine bodyPost_ret (v := .tuple #[.agg #[.int .i64 0, .int .i64 0, .string ⟨#[]⟩, .slice none 0 0], .int .i64 0, .int .i64 6]) (by simp [results, Try.results37, go_sem]) rfl ⟨_, _, _, _, _, _, 0, 6, rfl, ?_, by omega, .inr ⟨HX.out, by decide⟩⟩
  exact (Below.refl _ _).alloc (Nat.le_refl _) _
theorem treeE_nil (d : Nat) : treeE (d + 1) [] = .error 5 := rfl
theorem treeE_num (d : Nat) (b : BitVec 8) (r : BB) (h : b.toNat = 1) : treeE (d + 1) (b :: r) = (bindE intE fun n => pureE ⟨1, n, [], []⟩) r := by
  show (if b.toNat < 1 ∨ 14 < b.toNat then _ else if b.toNat = 1 then _ else _ : Rds Tr) r = _
  rw [if_neg (by omega), if_pos h]
theorem treeE_var (d : Nat) (b : BitVec 8) (r : BB) (h : b.toNat = 2) : treeE (d + 1) (b :: r) = (bindE textE fun s => pureE ⟨2, 0, bn s, []⟩) r := by
  show (if b.toNat < 1 ∨ 14 < b.toNat then _ else if b.toNat = 1 then _ else if b.toNat = 2 then _ else _ : Rds Tr) r = _
  rw [if_neg (by omega), if_neg (by omega), if_pos h]
theorem treeE_none (d : Nat) (b : BitVec 8) (r : BB) (h : b.toNat = 0 ∨ 15 ≤ b.toNat) : treeE (d + 1) (b :: r) = .error 3 := by
  show (if b.toNat < 1 ∨ 14 < b.toNat then failE 3 else _ : Rds Tr) r = _
  rw [if_pos (by omega)]; rfl
theorem treeE_kids (d : Nat) (b : BitVec 8) (r : BB) (h3 : 3 ≤ b.toNat) (h14 : b.toNat ≤ 14) : treeE (d + 1) (b :: r) = (bindE (manyE (treeE d) (kidsK b.toNat)) fun ks => pureE ⟨b.toNat, 0, [], ks⟩) r := by
  show (if b.toNat < 1 ∨ 14 < b.toNat then _ else if b.toNat = 1 then _ else if b.toNat = 2 then _ else _ : Rds Tr) r = _
  rw [if_neg (by omega), if_neg (by omega), if_neg (by omega)]
theorem bindE_ok {α β : Type} {f : Rds α} {g : α → Rds β} {l r : BB} {a : α} (h : f l = .ok (a, r)) : bindE f g l = g a r := by unfold bindE; rw [h]
theorem bindE_err {α β : Type} {f : Rds α} {g : α → Rds β} {l : BB} {e : Nat} (h : f l = .error e) : bindE f g l = .error e := by unfold bindE; rw [h]
theorem many_fails {α : Type} {f : Rds α} {l r : BB} {xs : List α} {e : Nat} : ∀ (N i : Nat), i < N → manyE f i l = .ok (xs, r) → f r = .error e → manyE f N l = .error e
  | 0, i, h, _, _ => absurd h (Nat.not_lt_zero _)
  | N + 1, i, h, h1, h2 => by
    show bindE (manyE f N) _ l = _
    by_cases hi : i = N
    · subst hi
      rw [bindE_ok h1]
      exact bindE_err h2
    · exact bindE_err (many_fails N i (by omega) h1 h2)
theorem many_more {α : Type} {f : Rds α} {l r r' : BB} {xs : List α} {x : α} {i : Nat} (h1 : manyE f i l = .ok (xs, r)) (h2 : f r = .ok (x, r')) : manyE f (i + 1) l = .ok (xs ++ [x], r') := by
  show bindE (manyE f i) _ l = _
  rw [bindE_ok h1, bindE_ok h2]; rfl
/-- The document's ReadInt. -/
theorem rint_read (v : Value) (l : BB) (w : World) (h : V.ReadsV w v l) : Calls Try.prog 71 #[v] w fun e w' => w' = w ∧ ∃ (n : Int) (k er : Nat), e = .returned (.tuple #[.int .i64 n, .int .i64 k, .int .i64 er]) ∧ InR n ∧ k ≤ l.length ∧ ((intE l = .ok (n, l.drop k) ∧ er = 0) ∨ (intE l = .error er ∧ er ≠ 0)) := by
  rcases hq : intE l with er | ⟨n, r⟩
  · obtain ⟨q1, q2⟩ := intE_bad hq
    refine (V.rreadInt_err v l er w h q1 q2).mono ?_
    rintro e w' ⟨rfl, rfl⟩
    exact ⟨rfl, 0, 0, er, rfl, inR_zero, Nat.zero_le _, .inr ⟨rfl, NZ.int _ _ hq⟩⟩
  · obtain ⟨k, q1, q2, q3⟩ := intE_rd hq
    refine (V.rreadInt_ok v l k _ w h q1 rfl).mono ?_
    rintro e w' ⟨rfl, rfl⟩
    exact ⟨rfl, n, k, 0, by rw [q2]; rfl, intE_in hq, (rd0_ok q1).2.1, .inl ⟨by rw [q3], rfl⟩⟩
/-- The document's ReadBytes. -/
theorem rbytes_read (v : Value) (l : BB) (w : World) (h : V.ReadsV w v l) : Calls Try.prog 72 #[v] w fun e w' => w' = w ∧ ∃ (x : BB) (sv : Value) (k er : Nat), e = .returned (.tuple #[sv, .int .i64 k, .int .i64 er]) ∧ V.ReadsV w sv x ∧ k ≤ l.length ∧ ((textE l = .ok (x, l.drop k) ∧ er = 0) ∨ (textE l = .error er ∧ er ≠ 0)) := by
  rcases hq : textE l with er | ⟨x, r⟩
  · rcases textE_bad hq with ⟨q1, q2⟩ | ⟨rfl, k, q1, q2⟩
    · refine (V.rreadBytes_err v l er w h q1 q2).mono ?_
      rintro e w' ⟨rfl, rfl⟩
      exact ⟨rfl, [], _, 0, er, rfl, V.ReadsV.nil _, Nat.zero_le _, .inr ⟨rfl, NZ.text _ _ hq⟩⟩
    · refine (V.rreadBytes_short v l k _ w h q1 rfl q2).mono ?_
      rintro e w' ⟨rfl, rfl⟩
      exact ⟨rfl, [], _, 0, 5, rfl, V.ReadsV.nil _, Nat.zero_le _, .inr ⟨rfl, by decide⟩⟩
  · obtain ⟨k, q1, q2, q3, q4⟩ := textE_rd hq
    refine (V.rreadBytes_ok v l k _ w h q1 rfl q2).mono ?_
    rintro e w' ⟨sv, rfl, q5, rfl⟩
    exact ⟨rfl, x, sv, k + V.Pack.val (l.take k), 0, by push_cast; rfl, by rw [← q3]; exact q5, by have := (rd0_ok q1).2.1; omega, .inl ⟨by rw [q4], rfl⟩⟩
/-- What a slice of all but the first reads as. -/
theorem cut_one {w : World} {g off n c : Nat} {b : BitVec 8} {r : BB} (h : V.ReadsV w (.slice (some ⟨g, off, none⟩) n c) (b :: r)) : (c = 1 → V.ReadsV w (.slice (some ⟨g, off, none⟩) (n - 1) 0) r) ∧ (¬ c = 1 → V.ReadsV w (.slice (some ⟨g, off + 1, none⟩) (n - 1) (c - 1)) r) := by
  have hn : n = r.length + 1 := by obtain ⟨_, _, e, _⟩ := h; simp only [Value.slice.injEq] at e; simpa using e.2.1
  refine ⟨fun hc => ?_, fun hc => ?_⟩
  · have := V.tailB (b := some ⟨g, off, none⟩) (k := 1) h (by omega)
    have hcap := V.ReadsV.cap h
    have h0 : n - 1 = 0 := by omega
    rw [h0]; simpa using this
  · have := V.tailA (k := 1) h (by omega) hc
    simpa [V.add_plain] using this
set_option maxRecDepth 100000 in
set_option maxHeartbeats 400000 in
theorem rt_nil (d deep : Nat) (hd : d + 1 + deep = 17) (v : Value) (w : World) (h : V.ReadsV w v []) : Calls Try.prog 37 #[v, .int .i64 deep] w (RTP (treeE (d + 1)) [] w) := by
  obtain ⟨a, c, rfl, _⟩ := h
  have h16 : deep ≤ 16 := by omega
  have HX : Hid (treeE (d + 1) [] = .error 5) := treeE_nil d
  show Calls Try.prog 37 #[.slice a 0 c, .int .i64 deep] w _
  go_enter Try.func37, Try.ntmps37
  go_wp2
  refine bodyPost_ret (v := .tuple #[.agg #[.int .i64 0, .int .i64 0, .string ⟨#[]⟩, .slice none 0 0], .int .i64 0, .int .i64 5]) (by simp [results, Try.results37, go_sem]) rfl ⟨_, _, _, _, _, _, 0, 5, rfl, ?_, by omega, .inr ⟨HX.out, by decide⟩⟩
  exact (Below.refl _ _).alloc (Nat.le_refl _) _
/-- What the walk of tree has at hand of bytes that begin with one. -/
structure Tb (w : World) (a : Option Addr) (n c : Nat) (b : BitVec 8) (r : BB) (g off : Nat) : Prop where
  ad : a = some ⟨g, off, none⟩
  lt : g < w.heap.size
  c0 : w.cell? ⟨g, off, none⟩ = some (.int .u8 b.toNat)
  nn : n = r.length + 1
  nc : n ≤ c
  cm : c ≤ 9223372036854775807
  rd : V.ReadsV w (.slice (some ⟨g, off, none⟩) n c) (b :: r)
theorem tb_of {w : World} {a : Option Addr} {n c : Nat} {b : BitVec 8} {r : BB} (h : V.ReadsV w (.slice a n c) (b :: r)) : ∃ g off, Tb w a n c b r g off := by
  have hn : n = r.length + 1 := by obtain ⟨_, _, e, _⟩ := h; simp only [Value.slice.injEq] at e; simpa using e.2.1
  have hc := V.ReadsV.cap h
  obtain ⟨g, off, rfl, hg, hcell⟩ := V.cells_of h (by omega)
  have c0 := hcell 0 (by omega)
  have HB : V.B (V.nth (b :: r) 0) = (b.toNat : Int) := rfl
  rw [HB, Nat.add_zero] at c0
  refine ⟨g, off, rfl, hg, c0, hn, hc, ?_, h⟩
  obtain ⟨_, _, e, _, _, q, _⟩ := h; simp only [Value.slice.injEq] at e; rw [e.2.2]; exact q
set_option maxRecDepth 100000 in
set_option maxHeartbeats 400000 in
theorem rt_none (d deep : Nat) (hd : d + 1 + deep = 17) (v : Value) (b : BitVec 8) (r : BB) (w : World) (h : V.ReadsV w v (b :: r)) (hb : b.toNat = 0 ∨ 15 ≤ b.toNat) : Calls Try.prog 37 #[v, .int .i64 deep] w (RTP (treeE (d + 1)) (b :: r) w) := by
  have h' := h
  obtain ⟨a, c, rfl, _⟩ := h'
  have h16 : deep ≤ 16 := by omega
  have HX : Hid (treeE (d + 1) (b :: r) = .error 3) := treeE_none d b r hb
  have HK : Hid (∀ w, Calls Try.prog 73 #[.int .i64 b.toNat] w fun e w' => e = .returned (.int .i64 (-1)) ∧ w' = w) := fun w => rkids_none _ w hb
  obtain ⟨g, off, rfl, hg, c0, hnn, hnc, hcm, _⟩ := tb_of h
  have hbb := b.isLt
  have e1 : ((b.toNat : Int) == 1) = false := by rw [beq_eq_false_iff_ne]; omega
  have e2 : ((b.toNat : Int) == 2) = false := by rw [beq_eq_false_iff_ne]; omega
  clear h hb
  rw [hnn] at *
  generalize b.toNat = m at *
  generalize r.length = nl at *
  go_enter Try.func37, Try.ntmps37
  go_wp2_with (go_at_call 73; refine (HK.out _).mono ?_; rintro e w9 ⟨rfl, h9⟩; have h10 := h9.symm; clear h9; subst h10)
  refine bodyPost_ret (v := .tuple #[.agg #[.int .i64 0, .int .i64 0, .string ⟨#[]⟩, .slice none 0 0], .int .i64 0, .int .i64 3]) (by simp [results, Try.results37, go_sem]) rfl ⟨_, _, _, _, _, _, 0, 3, rfl, ?_, by omega, .inr ⟨HX.out, by decide⟩⟩
  exact (Below.refl _ _).alloc (Nat.le_refl _) _
end
section
open Go.RowKit
open V.Pack (byte urow zz unzz rd rd0_ok rd0_urow urow_len unzz_zz zz_unzz zz_lt byte_nat val_urow)
set_option linter.unusedVariables false

set_option maxRecDepth 100000 in
set_option maxHeartbeats 400000 in
theorem rt_num (d deep : Nat) (hd : d + 1 + deep = 17) (v : Value) (b : BitVec 8) (r : BB) (w : World) (h : V.ReadsV w v (b :: r)) (hl : (b :: r).length ≤ 1000000) (hb : b.toNat = 1) : Calls Try.prog 37 #[v, .int .i64 deep] w (RTP (treeE (d + 1)) (b :: r) w) := by
  have h' := h
  obtain ⟨a, c, rfl, _⟩ := h'
  have h16 : deep ≤ 16 := by omega
  obtain ⟨g, off, rfl, hg, c0, hnn, hnc, hcm, hrd⟩ := tb_of h
  have H71 : Hid (∀ v w, V.ReadsV w v r → Calls Try.prog 71 #[v] w fun e w' => w' = w ∧ ∃ (n : Int) (k er : Nat), e = .returned (.tuple #[.int .i64 n, .int .i64 k, .int .i64 er]) ∧ InR n ∧ k ≤ r.length ∧ ((intE r = .ok (n, r.drop k) ∧ er = 0) ∨ (intE r = .error er ∧ er ≠ 0))) := fun v w q => rint_read v r w q
  have HC : Hid (∀ o, (c = 1 → V.ReadsV (w.alloc o) (.slice (some ⟨g, off, none⟩) ((b :: r).length - 1) 0) r) ∧ (¬ c = 1 → V.ReadsV (w.alloc o) (.slice (some ⟨g, off + 1, none⟩) ((b :: r).length - 1) (c - 1)) r)) := fun o => cut_one (hrd.below ((Below.refl _ _).alloc (Nat.le_refl _) o))
  have HF : Hid (∀ (w1 : World) (n : Int) (k er : Nat), Below w.heap.size w w1 → InR n → k ≤ r.length → ((intE r = .ok (n, r.drop k) ∧ er = 0) ∨ (intE r = .error er ∧ er ≠ 0)) → RTP (treeE (d + 1)) (b :: r) w (.returned (.tuple #[.agg #[.int .i64 1, .int .i64 n, .string ⟨#[]⟩, .slice none 0 0], .int .i64 (1 + (k : Int)), .int .i64 er])) w1) := fun w1 n k er hB hn hk ho => by
    refine ⟨1, n, ⟨#[]⟩, none, 0, 0, k + 1, er, by rw [show ((k + 1 : Nat) : Int) = 1 + (k : Int) by omega], hB, by simp; omega, ?_⟩
    rcases ho with ⟨h1, rfl⟩ | ⟨h1, h2⟩
    · exact .inl ⟨⟨1, n, [], []⟩, by rw [treeE_num d b r hb, bindE_ok h1]; rfl, by simp; omega, rfl, Tre.leaf _ _ ⟨by decide, by decide⟩ hn [] (by decide)⟩
    · exact .inr ⟨by rw [treeE_num d b r hb, bindE_err h1], h2⟩
  have c1 : w.cell? ⟨g, off, none⟩ = some (.int .u8 1) := by rw [c0, hb]; rfl
  clear c0
  have hll : (b :: r).length = r.length + 1 := rfl
  simp only [hll] at hl hnc HC ⊢
  clear h hrd hb hnn hll
  generalize hNL : r.length = nl at *
  clear hNL
  go_enter Try.func37, Try.ntmps37
  go_wp2_with (go_at_call 71; refine (H71.out _ _ (by first | exact (by simpa using (HC.out _).1 (by assumption)) | exact (by simpa using (HC.out _).2 (by assumption)))).mono ?_; rintro e w9 ⟨h9, n, k, er, rfl, hn, hk, ho⟩; have h10 := h9.symm; clear h9; subst h10; have HO : Hid (InR n ∧ ((intE r = .ok (n, r.drop k) ∧ er = 0) ∨ (intE r = .error er ∧ er ≠ 0))) := ⟨hn, ho⟩; clear hn ho)
  all_goals (
    refine bodyPost_ret (v := .tuple #[.agg #[.int .i64 1, .int .i64 n, .string ⟨#[]⟩, .slice none 0 0], .int .i64 (1 + (k : Int)), .int .i64 er]) (by simp [results, Try.results37, go_sem]) rfl (HF.out _ _ _ _ ?_ HO.out.1 hk HO.out.2)
    first
      | exact (Below.refl _ _).alloc (Nat.le_refl _) _
      | exact below_four (o := 0) ((Below.refl _ _).alloc (Nat.le_refl _) _) (Nat.le_refl _))
set_option maxRecDepth 100000 in
set_option maxHeartbeats 400000 in
theorem rt_var (d deep : Nat) (hd : d + 1 + deep = 17) (v : Value) (b : BitVec 8) (r : BB) (w : World) (h : V.ReadsV w v (b :: r)) (hl : (b :: r).length ≤ 1000000) (hb : b.toNat = 2) : Calls Try.prog 37 #[v, .int .i64 deep] w (RTP (treeE (d + 1)) (b :: r) w) := by
  have h' := h
  obtain ⟨a, c, rfl, _⟩ := h'
  have h16 : deep ≤ 16 := by omega
  obtain ⟨g, off, rfl, hg, c0, hnn, hnc, hcm, hrd⟩ := tb_of h
  have H72 : Hid (∀ v w, V.ReadsV w v r → Calls Try.prog 72 #[v] w fun e w' => w' = w ∧ ∃ (x : BB) (sa : Option Addr) (sn sc : Nat) (k er : Nat), e = .returned (.tuple #[.slice sa sn sc, .int .i64 k, .int .i64 er]) ∧ V.ReadsV w (.slice sa sn sc) x ∧ k ≤ r.length ∧ ((textE r = .ok (x, r.drop k) ∧ er = 0) ∨ (textE r = .error er ∧ er ≠ 0))) := fun v w q => by
    refine (rbytes_read v r w q).mono ?_
    rintro e w' ⟨h1, x, sv, k, er, rfl, h2, h3, h4⟩
    have h2' := h2
    obtain ⟨sa, sc, rfl, _⟩ := h2'
    exact ⟨h1, x, _, _, _, k, er, rfl, h2, h3, h4⟩
  have HC : Hid (∀ o, (c = 1 → V.ReadsV (w.alloc o) (.slice (some ⟨g, off, none⟩) ((b :: r).length - 1) 0) r) ∧ (¬ c = 1 → V.ReadsV (w.alloc o) (.slice (some ⟨g, off + 1, none⟩) ((b :: r).length - 1) (c - 1)) r)) := fun o => cut_one (hrd.below ((Below.refl _ _).alloc (Nat.le_refl _) o))
  have HF : Hid (∀ (w1 : World) (x : BB) (k er : Nat), Below w.heap.size w w1 → x.length ≤ 9223372036854775807 → k ≤ r.length → ((textE r = .ok (x, r.drop k) ∧ er = 0) ∨ (textE r = .error er ∧ er ≠ 0)) → RTP (treeE (d + 1)) (b :: r) w (.returned (.tuple #[.agg #[.int .i64 2, .int .i64 0, .string (ba (bn x)), .slice none 0 0], .int .i64 (1 + (k : Int)), .int .i64 er])) w1) := fun w1 x k er hB hn hk ho => by
    refine ⟨2, 0, _, none, 0, 0, k + 1, er, by rw [show ((k + 1 : Nat) : Int) = 1 + (k : Int) by omega], hB, by simp; omega, ?_⟩
    rcases ho with ⟨h1, rfl⟩ | ⟨h1, h2⟩
    · exact .inl ⟨⟨2, 0, bn x, []⟩, by rw [treeE_var d b r hb, bindE_ok h1]; rfl, by simp; omega, rfl, Tre.leaf _ _ ⟨by decide, by decide⟩ inR_zero (bn x) (by rw [bn_len]; exact hn)⟩
    · exact .inr ⟨by rw [treeE_var d b r hb, bindE_err h1], h2⟩
  have c1 : w.cell? ⟨g, off, none⟩ = some (.int .u8 2) := by rw [c0, hb]; rfl
  clear c0
  have hll : (b :: r).length = r.length + 1 := rfl
  simp only [hll] at hl hnc HC ⊢
  clear h hrd hb hnn hll
  generalize hNL : r.length = nl at *
  clear hNL
  go_enter Try.func37, Try.ntmps37
  go_wp2_with (go_at_call 72; refine (H72.out _ _ (by first | exact (by simpa using (HC.out _).1 (by assumption)) | exact (by simpa using (HC.out _).2 (by assumption)))).mono ?_; rintro e w9 ⟨h9, x, sa, sn, sc, k, er, rfl, hn, hk, ho⟩; have h10 := h9.symm; clear h9; subst h10; have hcv := V.convert_str hn; rw [str_bn] at hcv; have HO : Hid (x.length ≤ 9223372036854775807 ∧ ((textE r = .ok (x, r.drop k) ∧ er = 0) ∨ (textE r = .error er ∧ er ≠ 0))) := ⟨reads_len hn, ho⟩; clear hn ho; generalize hST : ba (bn x) = st at *; have HST : Hid (ba (bn x) = st) := hST; clear hST)
  all_goals (
    refine bodyPost_ret (v := .tuple #[.agg #[.int .i64 2, .int .i64 0, .string st, .slice none 0 0], .int .i64 (1 + (k : Int)), .int .i64 er]) (by simp [results, Try.results37, go_sem]) rfl ?_
    rw [← HST.out]
    refine HF.out _ _ _ _ ?_ HO.out.1 hk HO.out.2
    first
      | exact (Below.refl _ _).alloc (Nat.le_refl _) _
      | exact below_four (o := 0) ((Below.refl _ _).alloc (Nat.le_refl _) _) (Nat.le_refl _))
/-- What lies where while the kids are read. -/
structure Xd (w wr : World) (xb : Nat) (k : Value) (kv : Value) (ts : List Tr) : Prop where
  bel : Below w.heap.size w wr
  r : Cell4 wr w.heap.size (.int .i64 0) (.int .i64 0) (.string ⟨#[]⟩) (.slice none 0 0)
  lo : w.heap.size < xb
  x : Cell4 wr xb k (.int .i64 0) (.string ⟨#[]⟩) kv
  kin : Gw treeR 31 4 wr (xb + 1) kv ts
theorem Xd.size {w wr : World} {xb : Nat} {k kv : Value} {ts : List Tr} (h : Xd w wr xb k kv ts) : xb + 1 ≤ wr.heap.size := h.x.lt
theorem Xd.then {w wr w3 : World} {xb : Nat} {k kv : Value} {ts : List Tr} (h : Xd w wr xb k kv ts) (hb : Below wr.heap.size wr w3) : Xd w w3 xb k kv ts :=
  ⟨h.bel.trans (hb.mono h.bel.size), h.r.below hb, h.lo, h.x.below hb, h.kin.below treeR_kept hb⟩
theorem Xd.next {w w3 w5 : World} {xb : Nat} {k kv v5 : Value} {ts ts' : List Tr} {o : Obj} (h : Xd w w3 xb k kv ts) (h5 : Gw treeR 31 4 w5 (xb + 1) v5 ts') (hg : (w3.alloc o).grownBy w5 kv.ownBlock) :
    Cell4 w5 xb k (.int .i64 0) (.string ⟨#[]⟩) kv ∧ Xd w (w5.setCell ⟨xb, 3, none⟩ v5) xb k v5 ts' := by
  have hs := h.size
  have h2 := h.lo
  have hB : Below (xb + 1) w3 w5 := ((Below.refl _ _).alloc hs _).grown hg (Nat.le_trans hs (le_alloc _ _)) h.kin.own
  have hy := h.x.under (Nat.lt_succ_self _) hB
  refine ⟨hy, ?_, (h.r.under (by omega) hB).far (by show w.heap.size ≠ xb; omega) _, h.lo, hy.put 3 _, h5.set treeR_kept (by show xb < xb + 1; omega) _⟩
  have hf : Below w.heap.size w w5 := h.bel.trans (hB.mono (by omega))
  exact hf.setCell (p := ⟨xb, 3, none⟩) (by show w.heap.size ≤ xb; omega) _
set_option maxRecDepth 100000 in
set_option maxHeartbeats 1600000 in
theorem rt_kids (d deep : Nat) (hd : d + 1 + deep = 17) (ih : RTs d) (v : Value) (b : BitVec 8) (r : BB) (w : World) (h : V.ReadsV w v (b :: r)) (hl : (b :: r).length ≤ 1000000) (hb3 : 3 ≤ b.toNat) (hb14 : b.toNat ≤ 14) : Calls Try.prog 37 #[v, .int .i64 deep] w (RTP (treeE (d + 1)) (b :: r) w) := by
  have h' := h
  obtain ⟨a, c, rfl, _⟩ := h'
  have h16 : deep ≤ 16 := by omega
  obtain ⟨g, off, rfl, hg, c0, hnn, hnc, hcm, hrd⟩ := tb_of h
  have HR : Hid (V.ReadsV w (.slice (some ⟨g, off, none⟩) (b :: r).length c) (b :: r)) := h
  have HK : Hid (∀ w, Calls Try.prog 73 #[.int .i64 b.toNat] w fun e w' => e = .returned (.int .i64 (kidsK b.toNat : Nat)) ∧ w' = w) := fun w => rkids_some _ w hb3 hb14
  have HI : Hid (∀ v w at_, at_ ≤ (b :: r).length → V.ReadsV w v ((b :: r).drop at_) → Calls Try.prog 37 #[v, .int .i64 ((deep : Int) + 1)] w (RTP (treeE d) ((b :: r).drop at_) w)) := fun v w at_ h1 q => ih (deep + 1) (by omega) v _ w q (by rw [List.length_drop]; omega)
  have HC0 : Hid (∀ wr k, Below w.heap.size w wr → k ≤ (b :: r).length → c = k → V.ReadsV wr (.slice (some ⟨g, off, none⟩) ((b :: r).length - k) 0) ((b :: r).drop k)) := fun wr k hB hk hc => by
    have := V.tailB (b := some ⟨g, off, none⟩) (k := k) (HR.out.below hB) (by omega)
    have hcap := V.ReadsV.cap HR.out
    have h0 : (b :: r).length - k = 0 := by omega
    rw [h0]; exact this
  have HC1 : Hid (∀ wr k, Below w.heap.size w wr → k ≤ (b :: r).length → ¬ c = k → V.ReadsV wr (.slice (some ⟨g, off + k, none⟩) ((b :: r).length - k) (c - k)) ((b :: r).drop k)) := fun wr k hB hk hc => by
    have := V.tailA (k := k) (HR.out.below hB) hk hc
    simpa [V.add_plain] using this
  have HFail : Hid (∀ ts at_ er i (w1 : World), i < kidsK b.toNat → manyE (treeE d) i r = .ok (ts, (b :: r).drop at_) → treeE d ((b :: r).drop at_) = .error er → er ≠ 0 → Below w.heap.size w w1 → RTP (treeE (d + 1)) (b :: r) w (.returned (.tuple #[.agg #[.int .i64 0, .int .i64 0, .string ⟨#[]⟩, .slice none 0 0], .int .i64 0, .int .i64 er])) w1) := fun ts at_ er i w1 hi h1 h2 h3 hB => ⟨0, 0, ⟨#[]⟩, none, 0, 0, 0, er, rfl, hB, by omega, .inr ⟨by rw [treeE_kids d b r hb3 hb14, bindE_err (many_fails _ i hi h1 h2)], h3⟩⟩
  have HDone : Hid (∀ ts at_ ka kc (w1 : World), at_ ≤ (b :: r).length → manyE (treeE d) (kidsK b.toNat) r = .ok (ts, (b :: r).drop at_) → Below w.heap.size w w1 → Tre w1 (fun g => w.heap.size ≤ g) (.agg #[.int .i64 b.toNat, .int .i64 0, .string ⟨#[]⟩, .slice ka ts.length kc]) ⟨b.toNat, 0, [], ts⟩ → RTP (treeE (d + 1)) (b :: r) w (.returned (.tuple #[.agg #[.int .i64 b.toNat, .int .i64 0, .string ⟨#[]⟩, .slice ka ts.length kc], .int .i64 at_, .int .i64 0])) w1) := fun ts at_ ka kc w1 hat h1 hB hT => ⟨_, _, _, _, _, _, at_, 0, rfl, hB, by omega, .inl ⟨_, by rw [treeE_kids d b r hb3 hb14, bindE_ok h1]; rfl, hat, rfl, hT⟩⟩
  have hk2 : kidsK b.toNat ≤ 2 := by unfold kidsK; repeat' split
                                     all_goals omega
  have HKi : Hid (InR b.toNat) := ⟨by omega, by omega⟩
  have hm2 : ((b.toNat : Int) == 1) = false := by rw [beq_eq_false_iff_ne]; omega
  have hm3 : ((b.toNat : Int) == 2) = false := by rw [beq_eq_false_iff_ne]; omega
  have HM0 : Hid (manyE (treeE d) 0 r = .ok ([], (b :: r).drop 1)) := rfl
  have hpos : 1 ≤ (b :: r).length := by simp
  have hbb := b.isLt
  clear h ih hrd hnn HR
  generalize hl2 : b :: r = bl at *
  clear hl2
  generalize hNL : bl.length = nl at *
  have HNL : Hid (bl.length = nl) := hNL
  clear hNL
  generalize kidsK b.toNat = N at *
  generalize b.toNat = m at *
  go_enter Try.func37, Try.ntmps37
  go_wp2_with (go_at_call 73; refine (HK.out _).mono ?_; rintro e w9 ⟨rfl, h9⟩; have h10 := h9.symm; clear h9; subst h10)
  go_loopw [16, 17] (fun at_ v wr => ∃ (i t : Nat), i ≤ N ∧ t ≤ nl ∧ v = .int .i64 i ∧ at_ = .int .i64 t ∧ Hid (∃ kv ts, Xd w wr (w.heap.size + 1) (.int .i64 m) kv ts ∧ ts.length = i ∧ manyE (treeE d) i r = .ok (ts, bl.drop t))) (fun _ v _ => N - (intOf v).toNat)
  case atStart => exact ⟨0, 1, Nat.zero_le _, hpos, rfl, rfl, _, [], ⟨((Below.refl _ _).alloc (Nat.le_refl _) _).alloc (le_alloc _ _) _, (Cell4.new w _ _ _ _ 31).alloc _, Nat.lt_succ_self _, by have := Cell4.new (w.alloc (.cells #[.int .i64 0, .int .i64 0, .string ⟨#[]⟩, .slice none 0 0] 31)) (.int .i64 m) (.int .i64 0) (.string ⟨#[]⟩) (.slice none 0 0) 31; rw [size_alloc] at this; exact this, Gw.nil _ _ _ _ _⟩, rfl, HM0.out⟩
  case round =>
    obtain ⟨i, t, hi2, ht, rfl, rfl, HR0⟩ := hrel
    obtain ⟨kv, ts, hX, htl, hAf⟩ := HR0.out
    have HX : Hid (Xd w wr (w.heap.size + 1) (.int .i64 m) kv ts) := hX
    have HTl : Hid (ts.length = i) := htl
    have HAf : Hid (manyE (treeE d) i r = .ok (ts, bl.drop t)) := hAf
    clear hX htl hAf HR0 HM0
    obtain ⟨ka, kc, rfl⟩ := HX.out.kin.form
    obtain ⟨z0, z1, z2, z3, z4⟩ := HX.out.r
    obtain ⟨x0, x1, x2, x3, x4⟩ := HX.out.x
    have hlz := World.block_lt_of_cell? _ _ z0
    have hlx := World.block_lt_of_cell? _ _ x0
    rw [HTl.out] at x3
    by_cases hlt2 : i < N
    · have HLn : Hid (ts.length ≤ 1048576) := by show _ ≤ _; rw [HTl.out]; omega
      have hwr : IntKind.i64.wrap ((deep : Int) + 1) = (deep : Int) + 1 := by rw [IntKind.wrap_i64]; omega
      have HC : Hid ((c = t → V.ReadsV wr (.slice (some ⟨g, off, none⟩) (nl - t) 0) (bl.drop t)) ∧ (¬ c = t → V.ReadsV wr (.slice (some ⟨g, off + t, none⟩) (nl - t) (c - t)) (bl.drop t))) := ⟨HC0.out wr t HX.out.bel ht, HC1.out wr t HX.out.bel ht⟩
      rw [HTl.out] at HX
      rcases Decidable.em (c = t) with hct | hct
      · subst hct
        have HCz : Hid (V.ReadsV wr (.slice (some ⟨g, off, none⟩) 0 0) (bl.drop c)) := by have := HC.out.1 rfl; rw [show nl - c = 0 by omega] at this; exact this
        go_wp2_with (first
          | (at_builtin; have := HB3; refine list_tree rfl (.tmp 90) (.tmp 92) rfl HB3.out.1.kin HB3.out.2.1 HB3.out.1.size rfl rfl (by simp only [size_alloc]) HLn.out ?_; intro v5 w5 h5 hg5; obtain ⟨va, vc, rfl⟩ := h5.form1; have HB5 : Hid (Xd w (w5.setCell ⟨w.heap.size + 1, 3, none⟩ (.slice va (ts.length + 1) vc)) (w.heap.size + 1) (.int .i64 m) (.slice va (ts.length + 1) vc) (ts ++ [y])) := (HB3.out.1.next h5 hg5).2; obtain ⟨t0, t1, t2, t3, t4⟩ := (HB3.out.1.next h5 hg5).1; have hls := World.block_lt_of_cell? _ _ t0; clear h5 hg5)
          | (go_at_call 37; refine (HI.out _ _ c ht HCz.out).mono ?_; rintro e w3 ⟨rk, rn, rs, ra, rl, rc, kk, er, rfl, hB3, hkk, hor⟩; have HX3 : Hid (Xd w w3 (w.heap.size + 1) (.int .i64 m) (.slice ka i kc) ts ∧ Xd w (w3.alloc (.cells #[.int .i64 rk, .int .i64 rn, .string rs, .slice ra rl rc] 31)) (w.heap.size + 1) (.int .i64 m) (.slice ka i kc) ts) := ⟨HX.out.then hB3, (HX.out.then hB3).then ((Below.refl _ _).alloc (Nat.le_refl _) _)⟩; obtain ⟨y0, y1, y2, y3, y4⟩ := HX3.out.1.x; obtain ⟨s0, s1, s2, s3, s4⟩ := HX3.out.1.r; have hly := World.block_lt_of_cell? _ _ y0; have hlr := World.block_lt_of_cell? _ _ s0; have hkq : kk ≤ nl - c + 1000 := (by rw [List.length_drop, HNL.out] at hkk; exact hkk); clear hkk; rcases hor with ⟨y, g1, g2, rfl, g4⟩ | ⟨g1, g2⟩; have HB3 : Hid (Xd w (w3.alloc (.cells #[.int .i64 rk, .int .i64 rn, .string rs, .slice ra rl rc] 31)) (w.heap.size + 1) (.int .i64 m) (.slice ka i kc) ts ∧ Tre (w3.alloc (.cells #[.int .i64 rk, .int .i64 rn, .string rs, .slice ra rl rc] 31)) (fun g => w.heap.size + 1 + 1 ≤ g ∧ (Value.slice ka i kc).ownBlock ≠ some g) (.agg #[.int .i64 rk, .int .i64 rn, .string rs, .slice ra rl rc]) y ∧ treeE d (bl.drop c) = .ok (y, (bl.drop c).drop kk) ∧ kk ≤ nl - c) := ⟨HX3.out.2, (g4.sub fun g hg => ⟨Nat.le_trans HX.out.size hg, HX.out.kin.off hg⟩).alloc _, g1, by rw [List.length_drop, HNL.out] at g2; exact g2⟩; clear g1 g2 g4; rotate_left; have HE3 : Hid (treeE d (bl.drop c) = .error er ∧ er ≠ 0) := ⟨g1, g2⟩; have hez : ¬ (er : Int) = 0 := (by omega); clear g1 g2))
        all_goals first
          | (have := HE3
             have hz4 : Cell4 _ w.heap.size (.int .i64 0) (.int .i64 0) (.string ⟨#[]⟩) (.slice none 0 0) := (((((HX3.out.1.r).put 0 (.int .i64 0)).put 1 (.int .i64 0)).put 2 (.string ⟨#[]⟩)).put 3 (.slice none 0 0)).alloc (.cells #[.int .i64 rk, .int .i64 rn, .string rs, .slice ra rl rc] 31)
             obtain ⟨e0, e1, e2, e3, _⟩ := hz4
             refine bodyPost_ret (v := .tuple #[.agg #[.int .i64 0, .int .i64 0, .string ⟨#[]⟩, .slice none 0 0], .int .i64 0, .int .i64 er]) (by simp [results, Try.results37, go_sem, e0, e1, e2, e3]) rfl (HFail.out ts c er i _ hlt2 HAf.out HE3.out.1 HE3.out.2 ?_)
             first
               | exact HX3.out.2.bel
               | exact below_four (o := 0) HX3.out.2.bel (Nat.le_refl _)
               | exact (below_four (o := 0) HX3.out.1.bel (Nat.le_refl _)).alloc (below_four (o := 0) HX3.out.1.bel (Nat.le_refl _)).size _)
          | (have hkz := HB3.out.2.2.2
             go_roundw
             case rel => exact ⟨i + 1, c + kk, by omega, by omega, by go_num, by go_num, _, _, HB5.out, by rw [List.length_append, HTl.out]; rfl, by have := many_more HAf.out HB3.out.2.2.1; rw [List.drop_drop] at this; exact this⟩
             case measure => simp [intOf]; omega)
      · have hct2 : ¬ t = c := fun q => hct q.symm
        go_wp2_with (first
          | (at_builtin; have := HB3; refine list_tree rfl (.tmp 90) (.tmp 92) rfl HB3.out.1.kin HB3.out.2.1 HB3.out.1.size rfl rfl (by simp only [size_alloc]) HLn.out ?_; intro v5 w5 h5 hg5; obtain ⟨va, vc, rfl⟩ := h5.form1; have HB5 : Hid (Xd w (w5.setCell ⟨w.heap.size + 1, 3, none⟩ (.slice va (ts.length + 1) vc)) (w.heap.size + 1) (.int .i64 m) (.slice va (ts.length + 1) vc) (ts ++ [y])) := (HB3.out.1.next h5 hg5).2; obtain ⟨t0, t1, t2, t3, t4⟩ := (HB3.out.1.next h5 hg5).1; have hls := World.block_lt_of_cell? _ _ t0; clear h5 hg5)
          | (go_at_call 37; refine (HI.out _ _ t ht (by simpa using HC.out.2 hct)).mono ?_; rintro e w3 ⟨rk, rn, rs, ra, rl, rc, kk, er, rfl, hB3, hkk, hor⟩; have HX3 : Hid (Xd w w3 (w.heap.size + 1) (.int .i64 m) (.slice ka i kc) ts ∧ Xd w (w3.alloc (.cells #[.int .i64 rk, .int .i64 rn, .string rs, .slice ra rl rc] 31)) (w.heap.size + 1) (.int .i64 m) (.slice ka i kc) ts) := ⟨HX.out.then hB3, (HX.out.then hB3).then ((Below.refl _ _).alloc (Nat.le_refl _) _)⟩; obtain ⟨y0, y1, y2, y3, y4⟩ := HX3.out.1.x; obtain ⟨s0, s1, s2, s3, s4⟩ := HX3.out.1.r; have hly := World.block_lt_of_cell? _ _ y0; have hlr := World.block_lt_of_cell? _ _ s0; have hkq : kk ≤ nl - t + 1000 := (by rw [List.length_drop, HNL.out] at hkk; exact hkk); clear hkk; rcases hor with ⟨y, g1, g2, rfl, g4⟩ | ⟨g1, g2⟩; have HB3 : Hid (Xd w (w3.alloc (.cells #[.int .i64 rk, .int .i64 rn, .string rs, .slice ra rl rc] 31)) (w.heap.size + 1) (.int .i64 m) (.slice ka i kc) ts ∧ Tre (w3.alloc (.cells #[.int .i64 rk, .int .i64 rn, .string rs, .slice ra rl rc] 31)) (fun g => w.heap.size + 1 + 1 ≤ g ∧ (Value.slice ka i kc).ownBlock ≠ some g) (.agg #[.int .i64 rk, .int .i64 rn, .string rs, .slice ra rl rc]) y ∧ treeE d (bl.drop t) = .ok (y, (bl.drop t).drop kk) ∧ kk ≤ nl - t) := ⟨HX3.out.2, (g4.sub fun g hg => ⟨Nat.le_trans HX.out.size hg, HX.out.kin.off hg⟩).alloc _, g1, by rw [List.length_drop, HNL.out] at g2; exact g2⟩; clear g1 g2 g4; rotate_left; have HE3 : Hid (treeE d (bl.drop t) = .error er ∧ er ≠ 0) := ⟨g1, g2⟩; have hez : ¬ (er : Int) = 0 := (by omega); clear g1 g2))
        all_goals first
          | (have := HE3
             have hz4 : Cell4 _ w.heap.size (.int .i64 0) (.int .i64 0) (.string ⟨#[]⟩) (.slice none 0 0) := (((((HX3.out.1.r).put 0 (.int .i64 0)).put 1 (.int .i64 0)).put 2 (.string ⟨#[]⟩)).put 3 (.slice none 0 0)).alloc (.cells #[.int .i64 rk, .int .i64 rn, .string rs, .slice ra rl rc] 31)
             obtain ⟨e0, e1, e2, e3, _⟩ := hz4
             refine bodyPost_ret (v := .tuple #[.agg #[.int .i64 0, .int .i64 0, .string ⟨#[]⟩, .slice none 0 0], .int .i64 0, .int .i64 er]) (by simp [results, Try.results37, go_sem, e0, e1, e2, e3]) rfl (HFail.out ts t er i _ hlt2 HAf.out HE3.out.1 HE3.out.2 ?_)
             first
               | exact HX3.out.2.bel
               | exact below_four (o := 0) HX3.out.2.bel (Nat.le_refl _)
               | exact (below_four (o := 0) HX3.out.1.bel (Nat.le_refl _)).alloc (below_four (o := 0) HX3.out.1.bel (Nat.le_refl _)).size _)
          | (have hkz := HB3.out.2.2.2
             go_roundw
             case rel => exact ⟨i + 1, t + kk, by omega, by omega, by go_num, by go_num, _, _, HB5.out, by rw [List.length_append, HTl.out]; rfl, by have := many_more HAf.out HB3.out.2.2.1; rw [List.drop_drop] at this; exact this⟩
             case measure => simp [intOf]; omega)
    · have he : i = N := by omega
      subst he
      have HF : Hid (Tre wr (fun g => w.heap.size + 1 + 1 ≤ g) (.agg #[.int .i64 m, .int .i64 0, .string (ba []), .slice ka ts.length kc]) ⟨m, 0, [], ts⟩) := HX.out.kin.tree (by rw [HTl.out]; omega) HKi.out inR_zero (by decide)
      go_wp2
      refine bodyPost_ret (v := .tuple #[.agg #[.int .i64 m, .int .i64 0, .string ⟨#[]⟩, .slice ka i kc], .int .i64 t, .int .i64 0]) (by simp [results, Try.results37, go_sem, z0, z1, z2, z3]) rfl ?_
      rw [← HTl.out]
      refine HDone.out _ _ _ _ _ ht HAf.out (below_four (o := 0) HX.out.bel (Nat.le_refl _)) ?_
      exact HF.out.kept fun g hg _ => ⟨four_other (M := w.heap.size) (o := 0) (by omega), by omega⟩
theorem rts_any : ∀ d, RTs d
  | 0 => rt_zero
  | d + 1 => fun deep hd v l w h hl => by
    match l, h, hl with
    | [], h, _ => exact rt_nil d deep hd v w h
    | b :: r, h, hl =>
      have hb := b.isLt
      by_cases h1 : b.toNat = 1
      · exact rt_num d deep hd v b r w h hl h1
      · by_cases h2 : b.toNat = 2
        · exact rt_var d deep hd v b r w h hl h2
        · by_cases h3 : b.toNat = 0 ∨ 15 ≤ b.toNat
          · exact rt_none d deep hd v b r w h h3
          · exact rt_kids d deep hd (rts_any d) v b r w h hl (by omega) (by omega)
end
section
open Go.RowKit
set_option linter.unusedVariables false

/-- What the document's ReadExpr answers. -/
def RXP (l : BB) (w : World) (e : Ending) (w' : World) : Prop :=
  ∃ (k n : Int) (s : ByteArray) (a : Option Addr) (ln c kk er : Nat), e = .returned (.tuple #[.agg #[.int .i64 k, .int .i64 n, .string s, .slice a ln c], .int .i64 kk, .int .i64 er]) ∧ Below w.heap.size w w' ∧ kk ≤ l.length ∧
    ((∃ t, exprE l = .ok (t, l.drop kk) ∧ er = 0 ∧ Tre w' (fun g => w.heap.size ≤ g) (.agg #[.int .i64 k, .int .i64 n, .string s, .slice a ln c]) t) ∨ (exprE l = .error er ∧ er ≠ 0 ∧ kk = 0 ∧ k = 0 ∧ n = 0 ∧ s = ⟨#[]⟩ ∧ a = none ∧ ln = 0 ∧ c = 0))
theorem RXP.bad {l : BB} {w w' : World} {er : Nat} (h : exprE l = .error er) (hz : er ≠ 0) (hB : Below w.heap.size w w') : RXP l w (.returned (.tuple #[.agg #[.int .i64 0, .int .i64 0, .string ⟨#[]⟩, .slice none 0 0], .int .i64 0, .int .i64 er])) w' :=
  ⟨0, 0, ⟨#[]⟩, none, 0, 0, 0, er, rfl, hB, Nat.zero_le _, .inr ⟨h, hz, rfl, rfl, rfl, rfl, rfl, rfl, rfl⟩⟩
set_option maxRecDepth 100000 in
set_option maxHeartbeats 1000000 in
theorem RReadExpr_any (v : Value) (l : BB) (w : World) (h : V.ReadsV w v l) (hl : l.length ≤ 1000000) : Calls Try.prog 15 #[v] w (RXP l w) := by
  have H37 : Hid (∀ o, Calls Try.prog 37 #[v, .int .i64 1] (w.alloc o) (RTP (treeE 16) l (w.alloc o))) := fun o => rts_any 16 1 rfl v l _ (h.below ((Below.refl _ _).alloc (Nat.le_refl _) o)) hl
  have HE1 : Hid (∀ er, treeE 16 l = .error er → exprE l = .error er) := fun er q => bindE_err q
  have HE2 : Hid (∀ t r, treeE 16 l = .ok (t, r) → checkM 16 t ≠ 0 → exprE l = .error (checkM 16 t)) := fun t r q hc => by
    show bindE _ _ l = _
    rw [bindE_ok q, if_pos hc]; rfl
  have HE3 : Hid (∀ t r, treeE 16 l = .ok (t, r) → checkM 16 t = 0 → exprE l = .ok (t, r)) := fun t r q hc => by
    show bindE _ _ l = _
    rw [bindE_ok q, if_neg (by omega)]; rfl
  have H18 : Hid (∀ (P : Nat → Prop) t k n s a ln c w1, Tre w1 P (.agg #[.int .i64 k, .int .i64 n, .string s, .slice a ln c]) t → Calls Try.prog 18 #[.agg #[.int .i64 k, .int .i64 n, .string s, .slice a ln c]] w1 fun e w' => e = .returned (.int .i64 (checkM 16 t : Nat)) ∧ Below w1.heap.size w1 w') := fun P t k n s a ln c w1 q => RCheck_any P t k n s a ln c w1 q
  clear h hl
  go_enter Try.func15, Try.ntmps15
  go_wp2_with (first
    | (go_at_call 18; have := O2; refine (H18.out _ t _ _ _ _ _ _ _ O2.out.2.1).mono ?_; rintro e w4 ⟨rfl, hB4⟩; have O4 : Hid (Below w.heap.size w w4 ∧ Tre w4 (fun g => w.heap.size + 1 ≤ g) (.agg #[.int .i64 rk, .int .i64 rn, .string rs, .slice ra rl rc]) t ∧ Cell4 w4 w.heap.size (.int .i64 0) (.int .i64 0) (.string ⟨#[]⟩) (.slice none 0 0) ∧ Cell4 w4 w3.heap.size (.int .i64 rk) (.int .i64 rn) (.string rs) (.slice ra rl rc)) := ⟨O2.out.1.trans (hB4.mono O2.out.1.size), O2.out.2.1.below hB4, O2.out.2.2.1.below hB4, O2.out.2.2.2.1.below hB4⟩; have HT : Hid (treeE 16 l = .ok (t, l.drop kk) ∧ kk ≤ l.length) := O2.out.2.2.2.2; obtain ⟨a0, a1, a2, a3, a4⟩ := O4.out.2.2.1; obtain ⟨b0, b1, b2, b3, b4⟩ := O4.out.2.2.2; have hla := World.block_lt_of_cell? _ _ a0; have hlb := World.block_lt_of_cell? _ _ b0; clear hB4 O2; have hck : checkM 16 t = 0 ∨ checkM 16 t ≠ 0 := Nat.eq_zero_or_pos _ |>.imp id (fun h => Nat.pos_iff_ne_zero.mp h); generalize hC : checkM 16 t = ck at *; have HC : Hid (checkM 16 t = ck) := hC; clear hC; rcases hck with hz | hz; subst hz; rotate_left; have hz2 : ¬ (ck : Int) = 0 := (by omega))
    | (go_at_call 37; refine (H37.out _).mono ?_; rintro e w3 ⟨rk, rn, rs, ra, rl, rc, kk, er, rfl, hB3, hkk, hor⟩; have hB4 := below_new hB3; obtain ⟨s0, s1, s2, s3, s4⟩ := (Cell4.new w (.int .i64 0) (.int .i64 0) (.string ⟨#[]⟩) (.slice none 0 0) 31).below hB3; have HC3 : Hid (Cell4 w3 w.heap.size (.int .i64 0) (.int .i64 0) (.string ⟨#[]⟩) (.slice none 0 0)) := ⟨s0, s1, s2, s3, s4⟩; have hls := World.block_lt_of_cell? _ _ s0; rcases hor with ⟨t, g1, g2, rfl, g4⟩ | ⟨g1, g2⟩; have O2 : Hid (Below w.heap.size w (w3.alloc (.cells #[.int .i64 rk, .int .i64 rn, .string rs, .slice ra rl rc] 31)) ∧ Tre (w3.alloc (.cells #[.int .i64 rk, .int .i64 rn, .string rs, .slice ra rl rc] 31)) (fun g => w.heap.size + 1 ≤ g) (.agg #[.int .i64 rk, .int .i64 rn, .string rs, .slice ra rl rc]) t ∧ Cell4 (w3.alloc (.cells #[.int .i64 rk, .int .i64 rn, .string rs, .slice ra rl rc] 31)) w.heap.size (.int .i64 0) (.int .i64 0) (.string ⟨#[]⟩) (.slice none 0 0) ∧ Cell4 (w3.alloc (.cells #[.int .i64 rk, .int .i64 rn, .string rs, .slice ra rl rc] 31)) w3.heap.size (.int .i64 rk) (.int .i64 rn) (.string rs) (.slice ra rl rc) ∧ treeE 16 l = .ok (t, l.drop kk) ∧ kk ≤ l.length) := ⟨hB4.alloc hB4.size _, (g4.sub fun g hg => by rw [size_alloc] at hg; exact hg).alloc _, HC3.out.alloc _, Cell4.new _ _ _ _ _ 31, g1, g2⟩; clear g1 g2 g4 hB3 hB4 hkk; rotate_left; have HX : Hid (treeE 16 l = .error er ∧ er ≠ 0 ∧ Below w.heap.size w w3) := ⟨g1, g2, hB4⟩; have hez : ¬ (er : Int) = 0 := (by omega); clear g1 g2 hB3 hB4 hkk))
  · have hz4 : Cell4 _ w.heap.size (.int .i64 0) (.int .i64 0) (.string ⟨#[]⟩) (.slice none 0 0) := (((((HC3.out).put 0 (.int .i64 0)).put 1 (.int .i64 0)).put 2 (.string ⟨#[]⟩)).put 3 (.slice none 0 0)).alloc (.cells #[.int .i64 rk, .int .i64 rn, .string rs, .slice ra rl rc] 31)
    obtain ⟨e0, e1, e2, e3, _⟩ := hz4
    refine bodyPost_ret (v := .tuple #[.agg #[.int .i64 0, .int .i64 0, .string ⟨#[]⟩, .slice none 0 0], .int .i64 0, .int .i64 er]) (by simp [results, Try.results15, go_sem, e0, e1, e2, e3]) rfl (RXP.bad (HE1.out _ HX.out.1) HX.out.2.1 ?_)
    exact (below_four (o := 0) HX.out.2.2 (Nat.le_refl _)).alloc (below_four (o := 0) HX.out.2.2 (Nat.le_refl _)).size _
  · have hz4 : Cell4 _ w.heap.size (.int .i64 0) (.int .i64 0) (.string ⟨#[]⟩) (.slice none 0 0) := ((((O4.out.2.2.1).put 0 (.int .i64 0)).put 1 (.int .i64 0)).put 2 (.string ⟨#[]⟩)).put 3 (.slice none 0 0)
    obtain ⟨e0, e1, e2, e3, _⟩ := hz4
    refine bodyPost_ret (v := .tuple #[.agg #[.int .i64 0, .int .i64 0, .string ⟨#[]⟩, .slice none 0 0], .int .i64 0, .int .i64 ck]) (by simp [results, Try.results15, go_sem, e0, e1, e2, e3]) rfl (RXP.bad (by rw [← HC.out]; exact HE2.out _ _ HT.out.1 (by rw [HC.out]; exact hz)) hz ?_)
    exact below_four (o := 0) O4.out.1 (Nat.le_refl _)
  · have hz4 : Cell4 _ w.heap.size (.int .i64 rk) (.int .i64 rn) (.string rs) (.slice ra rl rc) := ((((O4.out.2.2.1).put 0 (.int .i64 rk)).put 1 (.int .i64 rn)).put 2 (.string rs)).put 3 (.slice ra rl rc)
    obtain ⟨e0, e1, e2, e3, _⟩ := hz4
    refine bodyPost_ret (v := .tuple #[.agg #[.int .i64 rk, .int .i64 rn, .string rs, .slice ra rl rc], .int .i64 kk, .int .i64 0]) (by simp [results, Try.results15, go_sem, e0, e1, e2, e3]) rfl ⟨rk, rn, rs, ra, rl, rc, kk, 0, rfl, below_four (o := 0) O4.out.1 (Nat.le_refl _), HT.out.2, .inl ⟨t, HE3.out _ _ HT.out.1 HC.out, rfl, ?_⟩⟩
    exact O4.out.2.1.kept fun g hg _ => ⟨four_other (M := w.heap.size) (o := 0) (by omega), by omega⟩
end
end Go.Proofs.Ytjafjheffbbkmaa
