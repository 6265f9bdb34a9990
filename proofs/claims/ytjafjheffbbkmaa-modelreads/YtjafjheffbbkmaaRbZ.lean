/-
  The document's tree (11.7): contracts.
-/
import Derived.Test.YtjafjheffbbkmaaRdZ
import Derived.Test.YtjafjheffbbkmaaVRz
import Derived.Test.YtjafjheffbbkmaaNode
import Derived.Deep.RegionHeld3
import Derived.Test.YtjafjheffbbkmaaOnZ
import Derived.Test.YtjafjheffbbkmaaCheck
import Derived.Deep.Slices
import Derived.SizedLaws
import Derived.Test.YtjafjheffbbkmaaDfW
import Derived.Test.YtjafjheffbbkmaaVReads2
import Derived.SliceStrings
import Derived.Test.YtjafjheffbbkmaaRSZ
import Derived.Test.YtjafjheffbbkmaaWrZ
namespace Go.Proofs.Ytjafjheffbbkmaa
section
section
open Go.RowKit
open V.Pack (byte urow zz unzz rd rd0_ok rd0_urow urow_len unzz_zz zz_unzz zz_lt byte_nat val_urow)
set_option linter.unusedVariables false

/-- Appending one more, in a plain region. -/
theorem list_gw {α : Type} {R : Rdr α} (hR : KeptR R) (sl el sz bt : Nat) (z : Value) {ops : Array Oper} {rest : List Oper} {o : Oper} {a : Act} {Q : Exit → Act → World → Prop} {wX : World} (hgd : o.guard = none) (s x : Operand)
    (ho : o.op = .call { callee := .builtin .append, args := #[s, x], argTypes := #[sl, sl] }) (hu : Try.prog.underlying sl = some (.slice el)) (hinfo : (Try.prog.info? el).map (fun i => (i.zero, i.size, i.bytes)) = some (some z, sz, bt)) (hzc : z.cells.size = sz) (hsz : 0 < sz) (hbt : bt ≤ 100)
    {B g : Nat} {v : Value} {cs : Array Value} {ts : List α} {y : α} (hl : Gw R el sz wX B v ts) (hcs : cs.toList.length = sz) (hone : ∀ u ∈ cs.toList, u.oneCell' = true) (hy : R wX (fun g => B ≤ g ∧ v.ownBlock ≠ some g) cs.toList y) (hbase : B ≤ wX.heap.size) (hs : a.eval s = v) (hx : a.eval x = .slice (some ⟨g, 0, none⟩) 1 1) (hg : g = wX.heap.size) (hlen : ts.length ≤ 1048576)
    (h : ∀ v' w', Gw R el sz w' B v' (ts ++ [y]) → (wX.alloc (.cells cs el)).grownBy w' v.ownBlock → wpList Try.prog ops Q rest (a.put o.dst v') w') : wpList Try.prog ops Q (o :: rest) a (wX.alloc (.cells cs el)) := by
  subst hg
  obtain ⟨i, hi, hz, hsize, hby⟩ := info_parts hinfo
  obtain ⟨xs, h1, h2⟩ := hl
  have hmul : (ts.length + 1) * bt ≤ 1048577 * 100 := Nat.mul_le_mul (by omega) hbt
  obtain ⟨v', w', hr, q2, q3, q4, q5⟩ := run_append_own_at (P := Try.prog) (wX.alloc (.cells cs el)) B sl o.type el i z sz bt hu hi hz hsize hby hzc hsz v ts.length xs (World.ownsRow.alloc h1 _) ⟨wX.heap.size, 0, none⟩ 1 1 cs.toList (by rw [hcs, Nat.one_mul])
    (fun j u hj => by rw [V.add_plain, Nat.zero_add, cell_of_row _ wX.heap.size j _ el (0, 0) (heap_alloc_new wX _)]; simpa using hj) hone (by unfold maxLen; omega) (by omega) (by rw [size_alloc]; omega)
  refine wpList_plain hgd fun K hK => ?_
  unfold Oper.wp execOp
  simp only [ho, resolve, invoke, builtin, Sem.run_bind, Sem.run_pure, Result.andThen_ok, List.map_toArray, List.map_cons, List.map_nil, hs, hx, hr]
  refine hK _ _ (h v' w' ?_ q3)
  exact Gw.add hR (World.ownsRow.alloc h1 _) (fun j hj => hR _ _ _ _ _ _ (h2 j hj) fun g hg hlt => ⟨heap_alloc_old _ _ hlt, hg⟩) hcs (hR _ _ _ _ _ _ hy fun g hg hlt => ⟨heap_alloc_old _ _ hlt, hg⟩) q2 q3 q5
theorem list_tree {ops : Array Oper} {rest : List Oper} {o : Oper} {a : Act} {Q : Exit → Act → World → Prop} {wX : World} (hgd : o.guard = none) (s x : Operand)
    (ho : o.op = .call { callee := .builtin .append, args := #[s, x], argTypes := #[29, 29] }) {B g : Nat} {v : Value} {rk rn : Int} {rs : ByteArray} {ra : Option Addr} {rl rc : Nat} {ts : List Tr} {y : Tr}
    (hl : Gw treeR 31 4 wX B v ts) (hy : Tre wX (fun g => B ≤ g ∧ v.ownBlock ≠ some g) (.agg #[.int .i64 rk, .int .i64 rn, .string rs, .slice ra rl rc]) y) (hbase : B ≤ wX.heap.size) (hs : a.eval s = v) (hx : a.eval x = .slice (some ⟨g, 0, none⟩) 1 1) (hg : g = wX.heap.size) (hlen : ts.length ≤ 1048576)
    (h : ∀ v' w', Gw treeR 31 4 w' B v' (ts ++ [y]) → (wX.alloc (.cells #[.int .i64 rk, .int .i64 rn, .string rs, .slice ra rl rc] 31)).grownBy w' v.ownBlock → wpList Try.prog ops Q rest (a.put o.dst v') w') : wpList Try.prog ops Q (o :: rest) a (wX.alloc (.cells #[.int .i64 rk, .int .i64 rn, .string rs, .slice ra rl rc] 31)) :=
  list_gw treeR_kept 29 31 4 56 _ hgd s x ho Try.underlying29 infoE rfl (by decide) (by decide) hl rfl (by simp [Value.oneCell']) (show treeR wX _ _ y from Exists.intro _ (Exists.intro _ (Exists.intro _ (Exists.intro _ (And.intro rfl hy))))) hbase hs hx hg hlen h
set_option maxRecDepth 100000 in
theorem rkids_some (m : Nat) (w : World) (h3 : 3 ≤ m) (h14 : m ≤ 14) : Calls Try.prog 73 #[.int .i64 m] w fun e w' => e = .returned (.int .i64 (kidsK m : Nat)) ∧ w' = w := by
  by_cases h5 : m < 5
  · have HE : Hid (kidsK m = 0) := by show _ = _; unfold kidsK; rw [if_pos (by omega)]
    have h : m = 3 ∨ m = 4 := by omega
    rcases h with rfl | rfl
    · go_enter Try.func73, Try.ntmps73
      go_wp2
      go_ret
      exact ⟨by rw [HE.out]; rfl, rfl⟩
    · go_enter Try.func73, Try.ntmps73
      go_wp2
      go_ret
      exact ⟨by rw [HE.out]; rfl, rfl⟩
  · by_cases h7 : m < 7
    · have HE : Hid (kidsK m = 1) := by show _ = _; unfold kidsK; rw [if_neg (by omega), if_pos (by omega)]
      have h : m = 5 ∨ m = 6 := by omega
      rcases h with rfl | rfl
      · go_enter Try.func73, Try.ntmps73
        go_wp2
        go_ret
        exact ⟨by rw [HE.out]; rfl, rfl⟩
      · go_enter Try.func73, Try.ntmps73
        go_wp2
        go_ret
        exact ⟨by rw [HE.out]; rfl, rfl⟩
    · have HE : Hid (kidsK m = 2) := by show _ = _; unfold kidsK; rw [if_neg (by omega), if_neg (by omega)]
      have e3 : ((m : Int) == 3) = false := by rw [beq_eq_false_iff_ne]; omega
      have e4 : ((m : Int) == 4) = false := by rw [beq_eq_false_iff_ne]; omega
      have e5 : ((m : Int) == 5) = false := by rw [beq_eq_false_iff_ne]; omega
      have e6 : ((m : Int) == 6) = false := by rw [beq_eq_false_iff_ne]; omega
      go_enter Try.func73, Try.ntmps73
      go_wp2
      go_ret
      exact ⟨by rw [HE.out]; rfl, rfl⟩
set_option maxRecDepth 100000 in
theorem rkids_none (m : Nat) (w : World) (h : m = 0 ∨ 15 ≤ m) : Calls Try.prog 73 #[.int .i64 m] w fun e w' => e = .returned (.int .i64 (-1)) ∧ w' = w := by
  have e3 : ((m : Int) == 3) = false := by rw [beq_eq_false_iff_ne]; omega
  have e4 : ((m : Int) == 4) = false := by rw [beq_eq_false_iff_ne]; omega
  have e5 : ((m : Int) == 5) = false := by rw [beq_eq_false_iff_ne]; omega
  have e6 : ((m : Int) == 6) = false := by rw [beq_eq_false_iff_ne]; omega
  rcases h with rfl | h
  · go_enter Try.func73, Try.ntmps73
    go_wp2
    go_ret
    exact ⟨rfl, rfl⟩
  · go_enter Try.func73, Try.ntmps73
    go_wp2
    go_ret
    exact ⟨rfl, rfl⟩
/-- What the document's tree answers. -/
def RTP (f : Rds Tr) (l : BB) (w : World) (e : Ending) (w' : World) : Prop :=
  ∃ (k n : Int) (s : ByteArray) (a : Option Addr) (ln c kk er : Nat), e = .returned (.tuple #[.agg #[.int .i64 k, .int .i64 n, .string s, .slice a ln c], .int .i64 kk, .int .i64 er]) ∧ Below w.heap.size w w' ∧ kk ≤ l.length + 1000 ∧
    ((∃ t, f l = .ok (t, l.drop kk) ∧ kk ≤ l.length ∧ er = 0 ∧ Tre w' (fun g => w.heap.size ≤ g) (.agg #[.int .i64 k, .int .i64 n, .string s, .slice a ln c]) t) ∨ (f l = .error er ∧ er ≠ 0))
def RTs (d : Nat) : Prop := ∀ (deep : Nat), d + deep = 17 → ∀ (v : Value) (l : BB) (w : World), V.ReadsV w v l → l.length ≤ 1000000 → Calls Try.prog 37 #[v, .int .i64 deep] w (RTP (treeE d) l w)
set_option maxRecDepth 100000 in
theorem rt_zero : RTs 0 := fun deep hd v l w h hl => by
  have hd17 : deep = 17 := by omega
  subst hd17
  have HX : Hid (treeE 0 l = .error 6) := rfl
  clear h hl
  go_enter Try.func37, Try.ntmps37
  go_wp2
  refine bodyPost_ret (v := .tuple #[.agg #[.int .i64 0, .int .i64 0, .string ⟨#[]⟩, .slice none 0 0], .int .i64 0, .int .i64 6]) (by simp [results, Try.results37, go_sem]) rfl ⟨_, _, _, _, _, _, 0, 6, rfl, ?_, by omega, .inr ⟨HX.out, by decide⟩⟩
  exact (Below.refl _ _).alloc (Nat.le_refl _) _
theorem treeE_nil (d : Nat) : treeE (d + 1) [] = .error 5 := rfl
theorem treeE_num (d : Nat) (b : BitVec 8) (r : BB) (h : b.toNat = 1) : treeE (d + 1) (b :: r) = (bindE intE fun n => pureE ⟨1, n, [], []⟩) r := by
  show (if b.toNat < 1 ∨ 14 < b.toNat then _ else if b.toNat = 1 then _ else _ : Rds Tr) r = _
  rw [if_neg (by omega), if_pos h]
theorem treeE_var (d : Nat) (b : BitVec 8) (r : BB) (h : b.toNat = 2) : treeE (d + 1) (b :: r) = (bindE textE fun s => pureE ⟨2, 0, bn s, []⟩) r := by
  show (if b.toNat < 1 ∨ 14 < b.toNat then _ else if b.toNat = 1 then _ else if b.toNat = 2 then _ else _ : Rds Tr) r = _
  rw [if_neg (by omega), if_neg (by omega), if_pos h]
theorem treeE_none (d : Nat) (b : BitVec 8) (r : BB) (h : b.toNat = 0 ∨ 15 ≤ b.toNat) : treeE (d + 1) (b :: r) = .error 3 := by
  show (if b.toNat < 1 ∨ 14 < b.toNat then failE 3 else _ : Rds Tr) r = _
  rw [if_pos (by omega)]; rfl
theorem treeE_kids (d : Nat) (b : BitVec 8) (r : BB) (h3 : 3 ≤ b.toNat) (h14 : b.toNat ≤ 14) : treeE (d + 1) (b :: r) = (bindE (manyE (treeE d) (kidsK b.toNat)) fun ks => pureE ⟨b.toNat, 0, [], ks⟩) r := by
  show (if b.toNat < 1 ∨ 14 < b.toNat then _ else if b.toNat = 1 then _ else if b.toNat = 2 then _ else _ : Rds Tr) r = _
  rw [if_neg (by omega), if_neg (by omega), if_neg (by omega)]
theorem bindE_ok {α β : Type} {f : Rds α} {g : α → Rds β} {l r : BB} {a : α} (h : f l = .ok (a, r)) : bindE f g l = g a r := by unfold bindE; rw [h]
theorem bindE_err {α β : Type} {f : Rds α} {g : α → Rds β} {l : BB} {e : Nat} (h : f l = .error e) : bindE f g l = .error e := by unfold bindE; rw [h]
theorem many_fails {α : Type} {f : Rds α} {l r : BB} {xs : List α} {e : Nat} : ∀ (N i : Nat), i < N → manyE f i l = .ok (xs, r) → f r = .error e → manyE f N l = .error e
  | 0, i, h, _, _ => absurd h (Nat.not_lt_zero _)
  | N + 1, i, h, h1, h2 => by
    show bindE (manyE f N) _ l = _
    by_cases hi : i = N
    · subst hi
      rw [bindE_ok h1]
      exact bindE_err h2
    · exact bindE_err (many_fails N i (by omega) h1 h2)
theorem many_more {α : Type} {f : Rds α} {l r r' : BB} {xs : List α} {x : α} {i : Nat} (h1 : manyE f i l = .ok (xs, r)) (h2 : f r = .ok (x, r')) : manyE f (i + 1) l = .ok (xs ++ [x], r') := by
  show bindE (manyE f i) _ l = _
  rw [bindE_ok h1, bindE_ok h2]; rfl
/-- The document's ReadInt. -/
theorem rint_read (v : Value) (l : BB) (w : World) (h : V.ReadsV w v l) : Calls Try.prog 71 #[v] w fun e w' => w' = w ∧ ∃ (n : Int) (k er : Nat), e = .returned (.tuple #[.int .i64 n, .int .i64 k, .int .i64 er]) ∧ InR n ∧ k ≤ l.length ∧ ((intE l = .ok (n, l.drop k) ∧ er = 0) ∨ (intE l = .error er ∧ er ≠ 0)) := by
  rcases hq : intE l with er | ⟨n, r⟩
  · obtain ⟨q1, q2⟩ := intE_bad hq
    refine (V.rreadInt_err v l er w h q1 q2).mono ?_
    rintro e w' ⟨rfl, rfl⟩
    exact ⟨rfl, 0, 0, er, rfl, inR_zero, Nat.zero_le _, .inr ⟨rfl, NZ.int _ _ hq⟩⟩
  · obtain ⟨k, q1, q2, q3⟩ := intE_rd hq
    refine (V.rreadInt_ok v l k _ w h q1 rfl).mono ?_
    rintro e w' ⟨rfl, rfl⟩
    exact ⟨rfl, n, k, 0, by rw [q2]; rfl, intE_in hq, (rd0_ok q1).2.1, .inl ⟨by rw [q3], rfl⟩⟩
/-- The document's ReadBytes. -/
theorem rbytes_read (v : Value) (l : BB) (w : World) (h : V.ReadsV w v l) : Calls Try.prog 72 #[v] w fun e w' => w' = w ∧ ∃ (x : BB) (sv : Value) (k er : Nat), e = .returned (.tuple #[sv, .int .i64 k, .int .i64 er]) ∧ V.ReadsV w sv x ∧ k ≤ l.length ∧ ((textE l = .ok (x, l.drop k) ∧ er = 0) ∨ (textE l = .error er ∧ er ≠ 0)) := by
  rcases hq : textE l with er | ⟨x, r⟩
  · rcases textE_bad hq with ⟨q1, q2⟩ | ⟨rfl, k, q1, q2⟩
    · refine (V.rreadBytes_err v l er w h q1 q2).mono ?_
      rintro e w' ⟨rfl, rfl⟩
      exact ⟨rfl, [], _, 0, er, rfl, V.ReadsV.nil _, Nat.zero_le _, .inr ⟨rfl, NZ.text _ _ hq⟩⟩
    · refine (V.rreadBytes_short v l k _ w h q1 rfl q2).mono ?_
      rintro e w' ⟨rfl, rfl⟩
      exact ⟨rfl, [], _, 0, 5, rfl, V.ReadsV.nil _, Nat.zero_le _, .inr ⟨rfl, by decide⟩⟩
  · obtain ⟨k, q1, q2, q3, q4⟩ := textE_rd hq
    refine (V.rreadBytes_ok v l k _ w h q1 rfl q2).mono ?_
    rintro e w' ⟨sv, rfl, q5, rfl⟩
    exact ⟨rfl, x, sv, k + V.Pack.val (l.take k), 0, by push_cast; rfl, by rw [← q3]; exact q5, by have := (rd0_ok q1).2.1; omega, .inl ⟨by rw [q4], rfl⟩⟩
/-- What a slice of all but the first reads as. -/
theorem cut_one {w : World} {g off n c : Nat} {b : BitVec 8} {r : BB} (h : V.ReadsV w (.slice (some ⟨g, off, none⟩) n c) (b :: r)) : (c = 1 → V.ReadsV w (.slice (some ⟨g, off, none⟩) (n - 1) 0) r) ∧ (¬ c = 1 → V.ReadsV w (.slice (some ⟨g, off + 1, none⟩) (n - 1) (c - 1)) r) := by
  have hn : n = r.length + 1 := by obtain ⟨_, _, e, _⟩ := h; simp only [Value.slice.injEq] at e; simpa using e.2.1
  refine ⟨fun hc => ?_, fun hc => ?_⟩
  · have := V.tailB (b := some ⟨g, off, none⟩) (k := 1) h (by omega)
    have hcap := V.ReadsV.cap h
    have h0 : n - 1 = 0 := by omega
    rw [h0]; simpa using this
  · have := V.tailA (k := 1) h (by omega) hc
    simpa [V.add_plain] using this
set_option maxRecDepth 100000 in
set_option maxHeartbeats 400000 in
theorem rt_nil (d deep : Nat) (hd : d + 1 + deep = 17) (v : Value) (w : World) (h : V.ReadsV w v []) : Calls Try.prog 37 #[v, .int .i64 deep] w (RTP (treeE (d + 1)) [] w) := by
  obtain ⟨a, c, rfl, _⟩ := h
  have h16 : deep ≤ 16 := by omega
  have HX : Hid (treeE (d + 1) [] = .error 5) := treeE_nil d
  show Calls Try.prog 37 #[.slice a 0 c, .int .i64 deep] w _
  go_enter Try.func37, Try.ntmps37
  go_wp2
  refine bodyPost_ret (v := .tuple #[.agg #[.int .i64 0, .int .i64 0, .string ⟨#[]⟩, .slice none 0 0], .int .i64 0, .int .i64 5]) (by simp [results, Try.results37, go_sem]) rfl ⟨_, _, _, _, _, _, 0, 5, rfl, ?_, by omega, .inr ⟨HX.out, by decide⟩⟩
  exact (Below.refl _ _).alloc (Nat.le_refl _) _
/-- What the walk of tree has at hand of bytes that begin with one. -/
structure Tb (w : World) (a : Option Addr) (n c : Nat) (b : BitVec 8) (r : BB) (g off : Nat) : Prop where
  ad : a = some ⟨g, off, none⟩
  lt : g < w.heap.size
  c0 : w.cell? ⟨g, off, none⟩ = some (.int .u8 b.toNat)
  nn : n = r.length + 1
  nc : n ≤ c
  cm : c ≤ 9223372036854775807
  rd : V.ReadsV w (.slice (some ⟨g, off, none⟩) n c) (b :: r)
theorem tb_of {w : World} {a : Option Addr} {n c : Nat} {b : BitVec 8} {r : BB} (h : V.ReadsV w (.slice a n c) (b :: r)) : ∃ g off, Tb w a n c b r g off := by
  have hn : n = r.length + 1 := by obtain ⟨_, _, e, _⟩ := h; simp only [Value.slice.injEq] at e; simpa using e.2.1
  have hc := V.ReadsV.cap h
  obtain ⟨g, off, rfl, hg, hcell⟩ := V.cells_of h (by omega)
  have c0 := hcell 0 (by omega)
  have HB : V.B (V.nth (b :: r) 0) = (b.toNat : Int) := rfl
  rw [HB, Nat.add_zero] at c0
  refine ⟨g, off, rfl, hg, c0, hn, hc, ?_, h⟩
  obtain ⟨_, _, e, _, _, q, _⟩ := h; simp only [Value.slice.injEq] at e; rw [e.2.2]; exact q
set_option maxRecDepth 100000 in
set_option maxHeartbeats 400000 in
theorem rt_none (d deep : Nat) (hd : d + 1 + deep = 17) (v : Value) (b : BitVec 8) (r : BB) (w : World) (h : V.ReadsV w v (b :: r)) (hb : b.toNat = 0 ∨ 15 ≤ b.toNat) : Calls Try.prog 37 #[v, .int .i64 deep] w (RTP (treeE (d + 1)) (b :: r) w) := by
  have h' := h
  obtain ⟨a, c, rfl, _⟩ := h'
  have h16 : deep ≤ 16 := by omega
  have HX : Hid (treeE (d + 1) (b :: r) = .error 3) := treeE_none d b r hb
  have HK : Hid (∀ w, Calls Try.prog 73 #[.int .i64 b.toNat] w fun e w' => e = .returned (.int .i64 (-1)) ∧ w' = w) := fun w => rkids_none _ w hb
  obtain ⟨g, off, rfl, hg, c0, hnn, hnc, hcm, _⟩ := tb_of h
  have hbb := b.isLt
  have e1 : ((b.toNat : Int) == 1) = false := by rw [beq_eq_false_iff_ne]; omega
  have e2 : ((b.toNat : Int) == 2) = false := by rw [beq_eq_false_iff_ne]; omega
  clear h hb
  rw [hnn] at *
  generalize b.toNat = m at *
  generalize r.length = nl at *
  go_enter Try.func37, Try.ntmps37
  go_wp2_with (go_at_call 73; refine (HK.out _).mono ?_; rintro e w9 ⟨rfl, h9⟩; have h10 := h9.symm; clear h9; subst h10)
  refine bodyPost_ret (v := .tuple #[.agg #[.int .i64 0, .int .i64 0, .string ⟨#[]⟩, .slice none 0 0], .int .i64 0, .int .i64 3]) (by simp [results, Try.results37, go_sem]) rfl ⟨_, _, _, _, _, _, 0, 3, rfl, ?_, by omega, .inr ⟨HX.out, by decide⟩⟩
  exact (Below.refl _ _).alloc (Nat.le_refl _) _
end
section
open Go.RowKit
open V.Pack (byte urow zz unzz rd rd0_ok rd0_urow urow_len unzz_zz zz_unzz zz_lt byte_nat val_urow)
set_option linter.unusedVariables false

set_option maxRecDepth 100000 in
set_option maxHeartbeats 400000 in
theorem rt_num (d deep : Nat) (hd : d + 1 + deep = 17) (v : Value) (b : BitVec 8) (r : BB) (w : World) (h : V.ReadsV w v (b :: r)) (hl : (b :: r).length ≤ 1000000) (hb : b.toNat = 1) : Calls Try.prog 37 #[v, .int .i64 deep] w (RTP (treeE (d + 1)) (b :: r) w) := by
  have h' := h
  obtain ⟨a, c, rfl, _⟩ := h'
  have h16 : deep ≤ 16 := by omega
  obtain ⟨g, off, rfl, hg, c0, hnn, hnc, hcm, hrd⟩ := tb_of h
  have H71 : Hid (∀ v w, V.ReadsV w v r → Calls Try.prog 71 #[v] w fun e w' => w' = w ∧ ∃ (n : Int) (k er : Nat), e = .returned (.tuple #[.int .i64 n, .int .i64 k, .int .i64 er]) ∧ InR n ∧ k ≤ r.length ∧ ((intE r = .ok (n, r.drop k) ∧ er = 0) ∨ (intE r = .error er ∧ er ≠ 0))) := fun v w q => rint_read v r w q
  have HC : Hid (∀ o, (c = 1 → V.ReadsV (w.alloc o) (.slice (some ⟨g, off, none⟩) ((b :: r).length - 1) 0) r) ∧ (¬ c = 1 → V.ReadsV (w.alloc o) (.slice (some ⟨g, off + 1, none⟩) ((b :: r).length - 1) (c - 1)) r)) := fun o => cut_one (hrd.below ((Below.refl _ _).alloc (Nat.le_refl _) o))
  have HF : Hid (∀ (w1 : World) (n : Int) (k er : Nat), Below w.heap.size w w1 → InR n → k ≤ r.length → ((intE r = .ok (n, r.drop k) ∧ er = 0) ∨ (intE r = .error er ∧ er ≠ 0)) → RTP (treeE (d + 1)) (b :: r) w (.returned (.tuple #[.agg #[.int .i64 1, .int .i64 n, .string ⟨#[]⟩, .slice none 0 0], .int .i64 (1 + (k : Int)), .int .i64 er])) w1) := fun w1 n k er hB hn hk ho => by
    refine ⟨1, n, ⟨#[]⟩, none, 0, 0, k + 1, er, by rw [show ((k + 1 : Nat) : Int) = 1 + (k : Int) by omega], hB, by simp; omega, ?_⟩
    rcases ho with ⟨h1, rfl⟩ | ⟨h1, h2⟩
    · exact .inl ⟨⟨1, n, [], []⟩, by rw [treeE_num d b r hb, bindE_ok h1]; rfl, by simp; omega, rfl, Tre.leaf _ _ ⟨by decide, by decide⟩ hn [] (by decide)⟩
    · exact .inr ⟨by rw [treeE_num d b r hb, bindE_err h1], h2⟩
  have c1 : w.cell? ⟨g, off, none⟩ = some (.int .u8 1) := by rw [c0, hb]; rfl
  clear c0
  have hll : (b :: r).length = r.length + 1 := rfl
  simp only [hll] at hl hnc HC ⊢
  clear h hrd hb hnn hll
  generalize hNL : r.length = nl at *
  clear hNL
  go_enter Try.func37, Try.ntmps37
  go_wp2_with (go_at_call 71; refine (H71.out _ _ (by first | exact (by simpa using (HC.out _).1 (by assumption)) | exact (by simpa using (HC.out _).2 (by assumption)))).mono ?_; rintro e w9 ⟨h9, n, k, er, rfl, hn, hk, ho⟩; have h10 := h9.symm; clear h9; subst h10; have HO : Hid (InR n ∧ ((intE r = .ok (n, r.drop k) ∧ er = 0) ∨ (intE r = .error er ∧ er ≠ 0))) := ⟨hn, ho⟩; clear hn ho)
  all_goals (
    refine bodyPost_ret (v := .tuple #[.agg #[.int .i64 1, .int .i64 n, .string ⟨#[]⟩, .slice none 0 0], .int .i64 (1 + (k : Int)), .int .i64 er]) (by simp [results, Try.results37, go_sem]) rfl (HF.out _ _ _ _ ?_ HO.out.1 hk HO.out.2)
    first
      | exact (Below.refl _ _).alloc (Nat.le_refl _) _
      | exact below_four (o := 0) ((Below.refl _ _).alloc (Nat.le_refl _) _) (Nat.le_refl _))
set_option maxRecDepth 100000 in
set_option maxHeartbeats 400000 in
theorem rt_var (d deep : Nat) (hd : d + 1 + deep = 17) (v : Value) (b : BitVec 8) (r : BB) (w : World) (h : V.ReadsV w v (b :: r)) (hl : (b :: r).length ≤ 1000000) (hb : b.toNat = 2) : Calls Try.prog 37 #[v, .int .i64 deep] w (RTP (treeE (d + 1)) (b :: r) w) := by
  have h' := h
  obtain ⟨a, c, rfl, _⟩ := h'
  have h16 : deep ≤ 16 := by omega
  obtain ⟨g, off, rfl, hg, c0, hnn, hnc, hcm, hrd⟩ := tb_of h
  have H72 : Hid (∀ v w, V.ReadsV w v r → Calls Try.prog 72 #[v] w fun e w' => w' = w ∧ ∃ (x : BB) (sa : Option Addr) (sn sc : Nat) (k er : Nat), e = .returned (.tuple #[.slice sa sn sc, .int .i64 k, .int .i64 er]) ∧ V.ReadsV w (.slice sa sn sc) x ∧ k ≤ r.length ∧ ((textE r = .ok (x, r.drop k) ∧ er = 0) ∨ (textE r = .error er ∧ er ≠ 0))) := fun v w q => by
    refine (rbytes_read v r w q).mono ?_
    rintro e w' ⟨h1, x, sv, k, er, rfl, h2, h3, h4⟩
    have h2' := h2
    obtain ⟨sa, sc, rfl, _⟩ := h2'
    exact ⟨h1, x, _, _, _, k, er, rfl, h2, h3, h4⟩
  have HC : Hid (∀ o, (c = 1 → V.ReadsV (w.alloc o) (.slice (some ⟨g, off, none⟩) ((b :: r).length - 1) 0) r) ∧ (¬ c = 1 → V.ReadsV (w.alloc o) (.slice (some ⟨g, off + 1, none⟩) ((b :: r).length - 1) (c - 1)) r)) := fun o => cut_one (hrd.below ((Below.refl _ _).alloc (Nat.le_refl _) o))
  have HF : Hid (∀ (w1 : World) (x : BB) (k er : Nat), Below w.heap.size w w1 → x.length ≤ 9223372036854775807 → k ≤ r.length → ((textE r = .ok (x, r.drop k) ∧ er = 0) ∨ (textE r = .error er ∧ er ≠ 0)) → RTP (treeE (d + 1)) (b :: r) w (.returned (.tuple #[.agg #[.int .i64 2, .int .i64 0, .string (ba (bn x)), .slice none 0 0], .int .i64 (1 + (k : Int)), .int .i64 er])) w1) := fun w1 x k er hB hn hk ho => by
    refine ⟨2, 0, _, none, 0, 0, k + 1, er, by rw [show ((k + 1 : Nat) : Int) = 1 + (k : Int) by omega], hB, by simp; omega, ?_⟩
    rcases ho with ⟨h1, rfl⟩ | ⟨h1, h2⟩
    · exact .inl ⟨⟨2, 0, bn x, []⟩, by rw [treeE_var d b r hb, bindE_ok h1]; rfl, by simp; omega, rfl, Tre.leaf _ _ ⟨by decide, by decide⟩ inR_zero (bn x) (by rw [bn_len]; exact hn)⟩
    · exact .inr ⟨by rw [treeE_var d b r hb, bindE_err h1], h2⟩
  have c1 : w.cell? ⟨g, off, none⟩ = some (.int .u8 2) := by rw [c0, hb]; rfl
  clear c0
  have hll : (b :: r).length = r.length + 1 := rfl
  simp only [hll] at hl hnc HC ⊢
  clear h hrd hb hnn hll
  generalize hNL : r.length = nl at *
  clear hNL
  go_enter Try.func37, Try.ntmps37
  go_wp2_with (go_at_call 72; refine (H72.out _ _ (by first | exact (by simpa using (HC.out _).1 (by assumption)) | exact (by simpa using (HC.out _).2 (by assumption)))).mono ?_; rintro e w9 ⟨h9, x, sa, sn, sc, k, er, rfl, hn, hk, ho⟩; have h10 := h9.symm; clear h9; subst h10; have hcv := V.convert_str hn; rw [str_bn] at hcv; have HO : Hid (x.length ≤ 9223372036854775807 ∧ ((textE r = .ok (x, r.drop k) ∧ er = 0) ∨ (textE r = .error er ∧ er ≠ 0))) := ⟨reads_len hn, ho⟩; clear hn ho; generalize hST : ba (bn x) = st at *; have HST : Hid (ba (bn x) = st) := hST; clear hST)
  all_goals (
    refine bodyPost_ret (v := .tuple #[.agg #[.int .i64 2, .int .i64 0, .string st, .slice none 0 0], .int .i64 (1 + (k : Int)), .int .i64 er]) (by simp [results, Try.results37, go_sem]) rfl ?_
    rw [← HST.out]
    refine HF.out _ _ _ _ ?_ HO.out.1 hk HO.out.2
    first
      | exact (Below.refl _ _).alloc (Nat.le_refl _) _
      | exact below_four (o := 0) ((Below.refl _ _).alloc (Nat.le_refl _) _) (Nat.le_refl _))
/-- What lies where while the kids are read. -/
structure Xd (w wr : World) (xb : Nat) (k : Value) (kv : Value) (ts : List Tr) : Prop where
  bel : Below w.heap.size w wr
  r : Cell4 wr w.heap.size (.int .i64 0) (.int .i64 0) (.string ⟨#[]⟩) (.slice none 0 0)
  lo : w.heap.size < xb
  x : Cell4 wr xb k (.int .i64 0) (.string ⟨#[]⟩) kv
  kin : Gw treeR 31 4 wr (xb + 1) kv ts
theorem Xd.size {w wr : World} {xb : Nat} {k kv : Value} {ts : List Tr} (h : Xd w wr xb k kv ts) : xb + 1 ≤ wr.heap.size := h.x.lt
theorem Xd.then {w wr w3 : World} {xb : Nat} {k kv : Value} {ts : List Tr} (h : Xd w wr xb k kv ts) (hb : Below wr.heap.size wr w3) : Xd w w3 xb k kv ts :=
  ⟨h.bel.trans (hb.mono h.bel.size), h.r.below hb, h.lo, h.x.below hb, h.kin.below treeR_kept hb⟩
theorem Xd.next {w w3 w5 : World} {xb : Nat} {k kv v5 : Value} {ts ts' : List Tr} {o : Obj} (h : Xd w w3 xb k kv ts) (h5 : Gw treeR 31 4 w5 (xb + 1) v5 ts') (hg : (w3.alloc o).grownBy w5 kv.ownBlock) :
    Cell4 w5 xb k (.int .i64 0) (.string ⟨#[]⟩) kv ∧ Xd w (w5.setCell ⟨xb, 3, none⟩ v5) xb k v5 ts' := by
  have hs := h.size
  have h2 := h.lo
  have hB : Below (xb + 1) w3 w5 := ((Below.refl _ _).alloc hs _).grown hg (Nat.le_trans hs (le_alloc _ _)) h.kin.own
  have hy := h.x.under (Nat.lt_succ_self _) hB
  refine ⟨hy, ?_, (h.r.under (by omega) hB).far (by show w.heap.size ≠ xb; omega) _, h.lo, hy.put 3 _, h5.set treeR_kept (by show xb < xb + 1; omega) _⟩
  have hf : Below w.heap.size w w5 := h.bel.trans (hB.mono (by omega))
  exact hf.setCell (p := ⟨xb, 3, none⟩) (by show w.heap.size ≤ xb; omega) _
set_option maxRecDepth 100000 in
set_option maxHeartbeats 1600000 in
theorem rt_kids (d deep : Nat) (hd : d + 1 + deep = 17) (ih : RTs d) (v : Value) (b : BitVec 8) (r : BB) (w : World) (h : V.ReadsV w v (b :: r)) (hl : (b :: r).length ≤ 1000000) (hb3 : 3 ≤ b.toNat) (hb14 : b.toNat ≤ 14) : Calls Try.prog 37 #[v, .int .i64 deep] w (RTP (treeE (d + 1)) (b :: r) w) := by
  have h' := h
  obtain ⟨a, c, rfl, _⟩ := h'
  have h16 : deep ≤ 16 := by omega
  obtain ⟨g, off, rfl, hg, c0, hnn, hnc, hcm, hrd⟩ := tb_of h
  have HR : Hid (V.ReadsV w (.slice (some ⟨g, off, none⟩) (b :: r).length c) (b :: r)) := h
  have HK : Hid (∀ w, Calls Try.prog 73 #[.int .i64 b.toNat] w fun e w' => e = .returned (.int .i64 (kidsK b.toNat : Nat)) ∧ w' = w) := fun w => rkids_some _ w hb3 hb14
  have HI : Hid (∀ v w at_, at_ ≤ (b :: r).length → V.ReadsV w v ((b :: r).drop at_) → Calls Try.prog 37 #[v, .int .i64 ((deep : Int) + 1)] w (RTP (treeE d) ((b :: r).drop at_) w)) := fun v w at_ h1 q => ih (deep + 1) (by omega) v _ w q (by rw [List.length_drop]; omega)
  have HC0 : Hid (∀ wr k, Below w.heap.size w wr → k ≤ (b :: r).length → c = k → V.ReadsV wr (.slice (some ⟨g, off, none⟩) ((b :: r).length - k) 0) ((b :: r).drop k)) := fun wr k hB hk hc => by
    have := V.tailB (b := some ⟨g, off, none⟩) (k := k) (HR.out.below hB) (by omega)
    have hcap := V.ReadsV.cap HR.out
    have h0 : (b :: r).length - k = 0 := by omega
    rw [h0]; exact this
  have HC1 : Hid (∀ wr k, Below w.heap.size w wr → k ≤ (b :: r).length → ¬ c = k → V.ReadsV wr (.slice (some ⟨g, off + k, none⟩) ((b :: r).length - k) (c - k)) ((b :: r).drop k)) := fun wr k hB hk hc => by
    have := V.tailA (k := k) (HR.out.below hB) hk hc
    simpa [V.add_plain] using this
  have HFail : Hid (∀ ts at_ er i (w1 : World), i < kidsK b.toNat → manyE (treeE d) i r = .ok (ts, (b :: r).drop at_) → treeE d ((b :: r).drop at_) = .error er → er ≠ 0 → Below w.heap.size w w1 → RTP (treeE (d + 1)) (b :: r) w (.returned (.tuple #[.agg #[.int .i64 0, .int .i64 0, .string ⟨#[]⟩, .slice none 0 0], .int .i64 0, .int .i64 er])) w1) := fun ts at_ er i w1 hi h1 h2 h3 hB => ⟨0, 0, ⟨#[]⟩, none, 0, 0, 0, er, rfl, hB, by omega, .inr ⟨by rw [treeE_kids d b r hb3 hb14, bindE_err (many_fails _ i hi h1 h2)], h3⟩⟩
  have HDone : Hid (∀ ts at_ ka kc (w1 : World), at_ ≤ (b :: r).length → manyE (treeE d) (kidsK b.toNat) r = .ok (ts, (b :: r).drop at_) → Below w.heap.size w w1 → Tre w1 (fun g => w.heap.size ≤ g) (.agg #[.int .i64 b.toNat, .int .i64 0, .string ⟨#[]⟩, .slice ka ts.length kc]) ⟨b.toNat, 0, [], ts⟩ → RTP (treeE (d + 1)) (b :: r) w (.returned (.tuple #[.agg #[.int .i64 b.toNat, .int .i64 0, .string ⟨#[]⟩, .slice ka ts.length kc], .int .i64 at_, .int .i64 0])) w1) := fun ts at_ ka kc w1 hat h1 hB hT => ⟨_, _, _, _, _, _, at_, 0, rfl, hB, by omega, .inl ⟨_, by rw [treeE_kids d b r hb3 hb14, bindE_ok h1]; rfl, hat, rfl, hT⟩⟩
  have hk2 : kidsK b.toNat ≤ 2 := by unfold kidsK; repeat' split
                                     all_goals omega
  have HKi : Hid (InR b.toNat) := ⟨by omega, by omega⟩
  have hm2 : ((b.toNat : Int) == 1) = false := by rw [beq_eq_false_iff_ne]; omega
  have hm3 : ((b.toNat : Int) == 2) = false := by rw [beq_eq_false_iff_ne]; omega
  have HM0 : Hid (manyE (treeE d) 0 r = .ok ([], (b :: r).drop 1)) := rfl
  have hpos : 1 ≤ (b :: r).length := by simp
  have hbb := b.isLt
  clear h ih hrd hnn HR
  generalize hl2 : b :: r = bl at *
  clear hl2
  generalize hNL : bl.length = nl at *
  have HNL : Hid (bl.length = nl) := hNL
  clear hNL
  generalize kidsK b.toNat = N at *
  generalize b.toNat = m at *
  go_enter Try.func37, Try.ntmps37
  go_wp2_with (go_at_call 73; refine (HK.out _).mono ?_; rintro e w9 ⟨rfl, h9⟩; have h10 := h9.symm; clear h9; subst h10)
  go_loopw [16, 17] (fun at_ v wr => ∃ (i t : Nat), i ≤ N ∧ t ≤ nl ∧ v = .int .i64 i ∧ at_ = .int .i64 t ∧ Hid (∃ kv ts, Xd w wr (w.heap.size + 1) (.int .i64 m) kv ts ∧ ts.length = i ∧ manyE (treeE d) i r = .ok (ts, bl.drop t))) (fun _ v _ => N - (intOf v).toNat)
  case atStart => exact ⟨0, 1, Nat.zero_le _, hpos, rfl, rfl, _, [], ⟨((Below.refl _ _).alloc (Nat.le_refl _) _).alloc (le_alloc _ _) _, (Cell4.new w _ _ _ _ 31).alloc _, Nat.lt_succ_self _, by have := Cell4.new (w.alloc (.cells #[.int .i64 0, .int .i64 0, .string ⟨#[]⟩, .slice none 0 0] 31)) (.int .i64 m) (.int .i64 0) (.string ⟨#[]⟩) (.slice none 0 0) 31; rw [size_alloc] at this; exact this, Gw.nil _ _ _ _ _⟩, rfl, HM0.out⟩
  case round =>
    obtain ⟨i, t, hi2, ht, rfl, rfl, HR0⟩ := hrel
    obtain ⟨kv, ts, hX, htl, hAf⟩ := HR0.out
    have HX : Hid (Xd w wr (w.heap.size + 1) (.int .i64 m) kv ts) := hX
    have HTl : Hid (ts.length = i) := htl
    have HAf : Hid (manyE (treeE d) i r = .ok (ts, bl.drop t)) := hAf
    clear hX htl hAf HR0 HM0
    obtain ⟨ka, kc, rfl⟩ := HX.out.kin.form
    obtain ⟨z0, z1, z2, z3, z4⟩ := HX.out.r
    obtain ⟨x0, x1, x2, x3, x4⟩ := HX.out.x
    have hlz := World.block_lt_of_cell? _ _ z0
    have hlx := World.block_lt_of_cell? _ _ x0
    rw [HTl.out] at x3
    by_cases hlt2 : i < N
    · have HLn : Hid (ts.length ≤ 1048576) := by show _ ≤ _; rw [HTl.out]; omega
      have hwr : IntKind.i64.wrap ((deep : Int) + 1) = (deep : Int) + 1 := by rw [IntKind.wrap_i64]; omega
      have HC : Hid ((c = t → V.ReadsV wr (.slice (some ⟨g, off, none⟩) (nl - t) 0) (bl.drop t)) ∧ (¬ c = t → V.ReadsV wr (.slice (some ⟨g, off + t, none⟩) (nl - t) (c - t)) (bl.drop t))) := ⟨HC0.out wr t HX.out.bel ht, HC1.out wr t HX.out.bel ht⟩
      rw [HTl.out] at HX
      rcases Decidable.em (c = t) with hct | hct
      · subst hct
        have HCz : Hid (V.ReadsV wr (.slice (some ⟨g, off, none⟩) 0 0) (bl.drop c)) := by have := HC.out.1 rfl; rw [show nl - c = 0 by omega] at this; exact this
        go_wp2_with (first
          | (at_builtin; have := HB3; refine list_tree rfl (.tmp 90) (.tmp 92) rfl HB3.out.1.kin HB3.out.2.1 HB3.out.1.size rfl rfl (by simp only [size_alloc]) HLn.out ?_; intro v5 w5 h5 hg5; obtain ⟨va, vc, rfl⟩ := h5.form1; have HB5 : Hid (Xd w (w5.setCell ⟨w.heap.size + 1, 3, none⟩ (.slice va (ts.length + 1) vc)) (w.heap.size + 1) (.int .i64 m) (.slice va (ts.length + 1) vc) (ts ++ [y])) := (HB3.out.1.next h5 hg5).2; obtain ⟨t0, t1, t2, t3, t4⟩ := (HB3.out.1.next h5 hg5).1; have hls := World.block_lt_of_cell? _ _ t0; clear h5 hg5)
          | (go_at_call 37; refine (HI.out _ _ c ht HCz.out).mono ?_; rintro e w3 ⟨rk, rn, rs, ra, rl, rc, kk, er, rfl, hB3, hkk, hor⟩; have HX3 : Hid (Xd w w3 (w.heap.size + 1) (.int .i64 m) (.slice ka i kc) ts ∧ Xd w (w3.alloc (.cells #[.int .i64 rk, .int .i64 rn, .string rs, .slice ra rl rc] 31)) (w.heap.size + 1) (.int .i64 m) (.slice ka i kc) ts) := ⟨HX.out.then hB3, (HX.out.then hB3).then ((Below.refl _ _).alloc (Nat.le_refl _) _)⟩; obtain ⟨y0, y1, y2, y3, y4⟩ := HX3.out.1.x; obtain ⟨s0, s1, s2, s3, s4⟩ := HX3.out.1.r; have hly := World.block_lt_of_cell? _ _ y0; have hlr := World.block_lt_of_cell? _ _ s0; have hkq : kk ≤ nl - c + 1000 := (by rw [List.length_drop, HNL.out] at hkk; exact hkk); clear hkk; rcases hor with ⟨y, g1, g2, rfl, g4⟩ | ⟨g1, g2⟩; have HB3 : Hid (Xd w (w3.alloc (.cells #[.int .i64 rk, .int .i64 rn, .string rs, .slice ra rl rc] 31)) (w.heap.size + 1) (.int .i64 m) (.slice ka i kc) ts ∧ Tre (w3.alloc (.cells #[.int .i64 rk, .int .i64 rn, .string rs, .slice ra rl rc] 31)) (fun g => w.heap.size + 1 + 1 ≤ g ∧ (Value.slice ka i kc).ownBlock ≠ some g) (.agg #[.int .i64 rk, .int .i64 rn, .string rs, .slice ra rl rc]) y ∧ treeE d (bl.drop c) = .ok (y, (bl.drop c).drop kk) ∧ kk ≤ nl - c) := ⟨HX3.out.2, (g4.sub fun g hg => ⟨Nat.le_trans HX.out.size hg, HX.out.kin.off hg⟩).alloc _, g1, by rw [List.length_drop, HNL.out] at g2; exact g2⟩; clear g1 g2 g4; rotate_left; have HE3 : Hid (treeE d (bl.drop c) = .error er ∧ er ≠ 0) := ⟨g1, g2⟩; have hez : ¬ (er : Int) = 0 := (by omega); clear g1 g2))
        all_goals first
          | (have := HE3
             have hz4 : Cell4 _ w.heap.size (.int .i64 0) (.int .i64 0) (.string ⟨#[]⟩) (.slice none 0 0) := (((((HX3.out.1.r).put 0 (.int .i64 0)).put 1 (.int .i64 0)).put 2 (.string ⟨#[]⟩)).put 3 (.slice none 0 0)).alloc (.cells #[.int .i64 rk, .int .i64 rn, .string rs, .slice ra rl rc] 31)
             obtain ⟨e0, e1, e2, e3, _⟩ := hz4
             refine bodyPost_ret (v := .tuple #[.agg #[.int .i64 0, .int .i64 0, .string ⟨#[]⟩, .slice none 0 0], .int .i64 0, .int .i64 er]) (by simp [results, Try.results37, go_sem, e0, e1, e2, e3]) rfl (HFail.out ts c er i _ hlt2 HAf.out HE3.out.1 HE3.out.2 ?_)
             first
               | exact HX3.out.2.bel
               | exact below_four (o := 0) HX3.out.2.bel (Nat.le_refl _)
               | exact (below_four (o := 0) HX3.out.1.bel (Nat.le_refl _)).alloc (below_four (o := 0) HX3.out.1.bel (Nat.le_refl _)).size _)
          | (have hkz := HB3.out.2.2.2
             go_roundw
             case rel => exact ⟨i + 1, c + kk, by omega, by omega, by go_num, by go_num, _, _, HB5.out, by rw [List.length_append, HTl.out]; rfl, by have := many_more HAf.out HB3.out.2.2.1; rw [List.drop_drop] at this; exact this⟩
             case measure => simp [intOf]; omega)
      · have hct2 : ¬ t = c := fun q => hct q.symm
        go_wp2_with (first
          | (at_builtin; have := HB3; refine list_tree rfl (.tmp 90) (.tmp 92) rfl HB3.out.1.kin HB3.out.2.1 HB3.out.1.size rfl rfl (by simp only [size_alloc]) HLn.out ?_; intro v5 w5 h5 hg5; obtain ⟨va, vc, rfl⟩ := h5.form1; have HB5 : Hid (Xd w (w5.setCell ⟨w.heap.size + 1, 3, none⟩ (.slice va (ts.length + 1) vc)) (w.heap.size + 1) (.int .i64 m) (.slice va (ts.length + 1) vc) (ts ++ [y])) := (HB3.out.1.next h5 hg5).2; obtain ⟨t0, t1, t2, t3, t4⟩ := (HB3.out.1.next h5 hg5).1; have hls := World.block_lt_of_cell? _ _ t0; clear h5 hg5)
          | (go_at_call 37; refine (HI.out _ _ t ht (by simpa using HC.out.2 hct)).mono ?_; rintro e w3 ⟨rk, rn, rs, ra, rl, rc, kk, er, rfl, hB3, hkk, hor⟩; have HX3 : Hid (Xd w w3 (w.heap.size + 1) (.int .i64 m) (.slice ka i kc) ts ∧ Xd w (w3.alloc (.cells #[.int .i64 rk, .int .i64 rn, .string rs, .slice ra rl rc] 31)) (w.heap.size + 1) (.int .i64 m) (.slice ka i kc) ts) := ⟨HX.out.then hB3, (HX.out.then hB3).then ((Below.refl _ _).alloc (Nat.le_refl _) _)⟩; obtain ⟨y0, y1, y2, y3, y4⟩ := HX3.out.1.x; obtain ⟨s0, s1, s2, s3, s4⟩ := HX3.out.1.r; have hly := World.block_lt_of_cell? _ _ y0; have hlr := World.block_lt_of_cell? _ _ s0; have hkq : kk ≤ nl - t + 1000 := (by rw [List.length_drop, HNL.out] at hkk; exact hkk); clear hkk; rcases hor with ⟨y, g1, g2, rfl, g4⟩ | ⟨g1, g2⟩; have HB3 : Hid (Xd w (w3.alloc (.cells #[.int .i64 rk, .int .i64 rn, .string rs, .slice ra rl rc] 31)) (w.heap.size + 1) (.int .i64 m) (.slice ka i kc) ts ∧ Tre (w3.alloc (.cells #[.int .i64 rk, .int .i64 rn, .string rs, .slice ra rl rc] 31)) (fun g => w.heap.size + 1 + 1 ≤ g ∧ (Value.slice ka i kc).ownBlock ≠ some g) (.agg #[.int .i64 rk, .int .i64 rn, .string rs, .slice ra rl rc]) y ∧ treeE d (bl.drop t) = .ok (y, (bl.drop t).drop kk) ∧ kk ≤ nl - t) := ⟨HX3.out.2, (g4.sub fun g hg => ⟨Nat.le_trans HX.out.size hg, HX.out.kin.off hg⟩).alloc _, g1, by rw [List.length_drop, HNL.out] at g2; exact g2⟩; clear g1 g2 g4; rotate_left; have HE3 : Hid (treeE d (bl.drop t) = .error er ∧ er ≠ 0) := ⟨g1, g2⟩; have hez : ¬ (er : Int) = 0 := (by omega); clear g1 g2))
        all_goals first
          | (have := HE3
             have hz4 : Cell4 _ w.heap.size (.int .i64 0) (.int .i64 0) (.string ⟨#[]⟩) (.slice none 0 0) := (((((HX3.out.1.r).put 0 (.int .i64 0)).put 1 (.int .i64 0)).put 2 (.string ⟨#[]⟩)).put 3 (.slice none 0 0)).alloc (.cells #[.int .i64 rk, .int .i64 rn, .string rs, .slice ra rl rc] 31)
             obtain ⟨e0, e1, e2, e3, _⟩ := hz4
             refine bodyPost_ret (v := .tuple #[.agg #[.int .i64 0, .int .i64 0, .string ⟨#[]⟩, .slice none 0 0], .int .i64 0, .int .i64 er]) (by simp [results, Try.results37, go_sem, e0, e1, e2, e3]) rfl (HFail.out ts t er i _ hlt2 HAf.out HE3.out.1 HE3.out.2 ?_)
             first
               | exact HX3.out.2.bel
               | exact below_four (o := 0) HX3.out.2.bel (Nat.le_refl _)
               | exact (below_four (o := 0) HX3.out.1.bel (Nat.le_refl _)).alloc (below_four (o := 0) HX3.out.1.bel (Nat.le_refl _)).size _)
          | (have hkz := HB3.out.2.2.2
             go_roundw
             case rel => exact ⟨i + 1, t + kk, by omega, by omega, by go_num, by go_num, _, _, HB5.out, by rw [List.length_append, HTl.out]; rfl, by have := many_more HAf.out HB3.out.2.2.1; rw [List.drop_drop] at this; exact this⟩
             case measure => simp [intOf]; omega)
    · have he : i = N := by omega
      subst he
      have HF : Hid (Tre wr (fun g => w.heap.size + 1 + 1 ≤ g) (.agg #[.int .i64 m, .int .i64 0, .string (ba []), .slice ka ts.length kc]) ⟨m, 0, [], ts⟩) := HX.out.kin.tree (by rw [HTl.out]; omega) HKi.out inR_zero (by decide)
      go_wp2
      refine bodyPost_ret (v := .tuple #[.agg #[.int .i64 m, .int .i64 0, .string ⟨#[]⟩, .slice ka i kc], .int .i64 t, .int .i64 0]) (by simp [results, Try.results37, go_sem, z0, z1, z2, z3]) rfl ?_
      rw [← HTl.out]
      refine HDone.out _ _ _ _ _ ht HAf.out (below_four (o := 0) HX.out.bel (Nat.le_refl _)) ?_
      exact HF.out.kept fun g hg _ => ⟨four_other (M := w.heap.size) (o := 0) (by omega), by omega⟩
theorem rts_any : ∀ d, RTs d
  | 0 => rt_zero
  | d + 1 => fun deep hd v l w h hl => by
    match l, h, hl with
    | [], h, _ => exact rt_nil d deep hd v w h
    | b :: r, h, hl =>
      have hb := b.isLt
      by_cases h1 : b.toNat = 1
      · exact rt_num d deep hd v b r w h hl h1
      · by_cases h2 : b.toNat = 2
        · exact rt_var d deep hd v b r w h hl h2
        · by_cases h3 : b.toNat = 0 ∨ 15 ≤ b.toNat
          · exact rt_none d deep hd v b r w h h3
          · exact rt_kids d deep hd (rts_any d) v b r w h hl (by omega) (by omega)
end
section
open Go.RowKit
set_option linter.unusedVariables false

/-- What the document's ReadExpr answers. -/
def RXP (l : BB) (w : World) (e : Ending) (w' : World) : Prop :=
  ∃ (k n : Int) (s : ByteArray) (a : Option Addr) (ln c kk er : Nat), e = .returned (.tuple #[.agg #[.int .i64 k, .int .i64 n, .string s, .slice a ln c], .int .i64 kk, .int .i64 er]) ∧ Below w.heap.size w w' ∧ kk ≤ l.length ∧
    ((∃ t, exprE l = .ok (t, l.drop kk) ∧ er = 0 ∧ Tre w' (fun g => w.heap.size ≤ g) (.agg #[.int .i64 k, .int .i64 n, .string s, .slice a ln c]) t) ∨ (exprE l = .error er ∧ er ≠ 0 ∧ kk = 0 ∧ k = 0 ∧ n = 0 ∧ s = ⟨#[]⟩ ∧ a = none ∧ ln = 0 ∧ c = 0))
theorem RXP.bad {l : BB} {w w' : World} {er : Nat} (h : exprE l = .error er) (hz : er ≠ 0) (hB : Below w.heap.size w w') : RXP l w (.returned (.tuple #[.agg #[.int .i64 0, .int .i64 0, .string ⟨#[]⟩, .slice none 0 0], .int .i64 0, .int .i64 er])) w' :=
  ⟨0, 0, ⟨#[]⟩, none, 0, 0, 0, er, rfl, hB, Nat.zero_le _, .inr ⟨h, hz, rfl, rfl, rfl, rfl, rfl, rfl, rfl⟩⟩
set_option maxRecDepth 100000 in
set_option maxHeartbeats 1000000 in
theorem RReadExpr_any (v : Value) (l : BB) (w : World) (h : V.ReadsV w v l) (hl : l.length ≤ 1000000) : Calls Try.prog 15 #[v] w (RXP l w) := by
  have H37 : Hid (∀ o, Calls Try.prog 37 #[v, .int .i64 1] (w.alloc o) (RTP (treeE 16) l (w.alloc o))) := fun o => rts_any 16 1 rfl v l _ (h.below ((Below.refl _ _).alloc (Nat.le_refl _) o)) hl
  have HE1 : Hid (∀ er, treeE 16 l = .error er → exprE l = .error er) := fun er q => bindE_err q
  have HE2 : Hid (∀ t r, treeE 16 l = .ok (t, r) → checkM 16 t ≠ 0 → exprE l = .error (checkM 16 t)) := fun t r q hc => by
    show bindE _ _ l = _
    rw [bindE_ok q, if_pos hc]; rfl
  have HE3 : Hid (∀ t r, treeE 16 l = .ok (t, r) → checkM 16 t = 0 → exprE l = .ok (t, r)) := fun t r q hc => by
    show bindE _ _ l = _
    rw [bindE_ok q, if_neg (by omega)]; rfl
  have H18 : Hid (∀ (P : Nat → Prop) t k n s a ln c w1, Tre w1 P (.agg #[.int .i64 k, .int .i64 n, .string s, .slice a ln c]) t → Calls Try.prog 18 #[.agg #[.int .i64 k, .int .i64 n, .string s, .slice a ln c]] w1 fun e w' => e = .returned (.int .i64 (checkM 16 t : Nat)) ∧ Below w1.heap.size w1 w') := fun P t k n s a ln c w1 q => RCheck_any P t k n s a ln c w1 q
  clear h hl
  go_enter Try.func15, Try.ntmps15
  go_wp2_with (first
    | (go_at_call 18; have := O2; refine (H18.out _ t _ _ _ _ _ _ _ O2.out.2.1).mono ?_; rintro e w4 ⟨rfl, hB4⟩; have O4 : Hid (Below w.heap.size w w4 ∧ Tre w4 (fun g => w.heap.size + 1 ≤ g) (.agg #[.int .i64 rk, .int .i64 rn, .string rs, .slice ra rl rc]) t ∧ Cell4 w4 w.heap.size (.int .i64 0) (.int .i64 0) (.string ⟨#[]⟩) (.slice none 0 0) ∧ Cell4 w4 w3.heap.size (.int .i64 rk) (.int .i64 rn) (.string rs) (.slice ra rl rc)) := ⟨O2.out.1.trans (hB4.mono O2.out.1.size), O2.out.2.1.below hB4, O2.out.2.2.1.below hB4, O2.out.2.2.2.1.below hB4⟩; have HT : Hid (treeE 16 l = .ok (t, l.drop kk) ∧ kk ≤ l.length) := O2.out.2.2.2.2; obtain ⟨a0, a1, a2, a3, a4⟩ := O4.out.2.2.1; obtain ⟨b0, b1, b2, b3, b4⟩ := O4.out.2.2.2; have hla := World.block_lt_of_cell? _ _ a0; have hlb := World.block_lt_of_cell? _ _ b0; clear hB4 O2; have hck : checkM 16 t = 0 ∨ checkM 16 t ≠ 0 := Nat.eq_zero_or_pos _ |>.imp id (fun h => Nat.pos_iff_ne_zero.mp h); generalize hC : checkM 16 t = ck at *; have HC : Hid (checkM 16 t = ck) := hC; clear hC; rcases hck with hz | hz; subst hz; rotate_left; have hz2 : ¬ (ck : Int) = 0 := (by omega))
    | (go_at_call 37; refine (H37.out _).mono ?_; rintro e w3 ⟨rk, rn, rs, ra, rl, rc, kk, er, rfl, hB3, hkk, hor⟩; have hB4 := below_new hB3; obtain ⟨s0, s1, s2, s3, s4⟩ := (Cell4.new w (.int .i64 0) (.int .i64 0) (.string ⟨#[]⟩) (.slice none 0 0) 31).below hB3; have HC3 : Hid (Cell4 w3 w.heap.size (.int .i64 0) (.int .i64 0) (.string ⟨#[]⟩) (.slice none 0 0)) := ⟨s0, s1, s2, s3, s4⟩; have hls := World.block_lt_of_cell? _ _ s0; rcases hor with ⟨t, g1, g2, rfl, g4⟩ | ⟨g1, g2⟩; have O2 : Hid (Below w.heap.size w (w3.alloc (.cells #[.int .i64 rk, .int .i64 rn, .string rs, .slice ra rl rc] 31)) ∧ Tre (w3.alloc (.cells #[.int .i64 rk, .int .i64 rn, .string rs, .slice ra rl rc] 31)) (fun g => w.heap.size + 1 ≤ g) (.agg #[.int .i64 rk, .int .i64 rn, .string rs, .slice ra rl rc]) t ∧ Cell4 (w3.alloc (.cells #[.int .i64 rk, .int .i64 rn, .string rs, .slice ra rl rc] 31)) w.heap.size (.int .i64 0) (.int .i64 0) (.string ⟨#[]⟩) (.slice none 0 0) ∧ Cell4 (w3.alloc (.cells #[.int .i64 rk, .int .i64 rn, .string rs, .slice ra rl rc] 31)) w3.heap.size (.int .i64 rk) (.int .i64 rn) (.string rs) (.slice ra rl rc) ∧ treeE 16 l = .ok (t, l.drop kk) ∧ kk ≤ l.length) := ⟨hB4.alloc hB4.size _, (g4.sub fun g hg => by rw [size_alloc] at hg; exact hg).alloc _, HC3.out.alloc _, Cell4.new _ _ _ _ _ 31, g1, g2⟩; clear g1 g2 g4 hB3 hB4 hkk; rotate_left; have HX : Hid (treeE 16 l = .error er ∧ er ≠ 0 ∧ Below w.heap.size w w3) := ⟨g1, g2, hB4⟩; have hez : ¬ (er : Int) = 0 := (by omega); clear g1 g2 hB3 hB4 hkk))
  · have hz4 : Cell4 _ w.heap.size (.int .i64 0) (.int .i64 0) (.string ⟨#[]⟩) (.slice none 0 0) := (((((HC3.out).put 0 (.int .i64 0)).put 1 (.int .i64 0)).put 2 (.string ⟨#[]⟩)).put 3 (.slice none 0 0)).alloc (.cells #[.int .i64 rk, .int .i64 rn, .string rs, .slice ra rl rc] 31)
    obtain ⟨e0, e1, e2, e3, _⟩ := hz4
    refine bodyPost_ret (v := .tuple #[.agg #[.int .i64 0, .int .i64 0, .string ⟨#[]⟩, .slice none 0 0], .int .i64 0, .int .i64 er]) (by simp [results, Try.results15, go_sem, e0, e1, e2, e3]) rfl (RXP.bad (HE1.out _ HX.out.1) HX.out.2.1 ?_)
    exact (below_four (o := 0) HX.out.2.2 (Nat.le_refl _)).alloc (below_four (o := 0) HX.out.2.2 (Nat.le_refl _)).size _
  · have hz4 : Cell4 _ w.heap.size (.int .i64 0) (.int .i64 0) (.string ⟨#[]⟩) (.slice none 0 0) := ((((O4.out.2.2.1).put 0 (.int .i64 0)).put 1 (.int .i64 0)).put 2 (.string ⟨#[]⟩)).put 3 (.slice none 0 0)
    obtain ⟨e0, e1, e2, e3, _⟩ := hz4
    refine bodyPost_ret (v := .tuple #[.agg #[.int .i64 0, .int .i64 0, .string ⟨#[]⟩, .slice none 0 0], .int .i64 0, .int .i64 ck]) (by simp [results, Try.results15, go_sem, e0, e1, e2, e3]) rfl (RXP.bad (by rw [← HC.out]; exact HE2.out _ _ HT.out.1 (by rw [HC.out]; exact hz)) hz ?_)
    exact below_four (o := 0) O4.out.1 (Nat.le_refl _)
  · have hz4 : Cell4 _ w.heap.size (.int .i64 rk) (.int .i64 rn) (.string rs) (.slice ra rl rc) := ((((O4.out.2.2.1).put 0 (.int .i64 rk)).put 1 (.int .i64 rn)).put 2 (.string rs)).put 3 (.slice ra rl rc)
    obtain ⟨e0, e1, e2, e3, _⟩ := hz4
    refine bodyPost_ret (v := .tuple #[.agg #[.int .i64 rk, .int .i64 rn, .string rs, .slice ra rl rc], .int .i64 kk, .int .i64 0]) (by simp [results, Try.results15, go_sem, e0, e1, e2, e3]) rfl ⟨rk, rn, rs, ra, rl, rc, kk, 0, rfl, below_four (o := 0) O4.out.1 (Nat.le_refl _), HT.out.2, .inl ⟨t, HE3.out _ _ HT.out.1 HC.out, rfl, ?_⟩⟩
    exact O4.out.2.1.kept fun g hg _ => ⟨four_other (M := w.heap.size) (o := 0) (by omega), by omega⟩
end
end
section
open Go.RowKit
open V.Pack (byte urow zz unzz rd rd0_ok rd0_urow urow_len unzz_zz zz_unzz zz_lt byte_nat val_urow)
set_option linter.unusedVariables false

/-- The document's reader: bytes, a place in them, the first error. -/
structure Rsd (w : World) (rb : Nat) (l : BB) (s : Sst) : Prop where
  cells : ∃ a c t, w.cell? ⟨rb, 0, none⟩ = some (.slice a l.length c) ∧ w.cell? ⟨rb, 1, none⟩ = some (.int .i64 (t : Nat)) ∧ V.ReadsV w (.slice a l.length c) l ∧ (l ≠ [] → ∀ x, a = some x → x.block < rb) ∧ t ≤ l.length ∧ (s.err = 0 → s.rest = l.drop t)
  err : w.cell? ⟨rb, 2, none⟩ = some (.int .i64 s.err)
  free : ∀ i, w.frozen? ⟨rb, i, none⟩ = false
  nil : s.err ≠ 0 → s.rest = []
theorem Rsd.lt {w : World} {rb : Nat} {l : BB} {s : Sst} (h : Rsd w rb l s) : rb < w.heap.size := World.block_lt_of_cell? w _ h.err
theorem Rsd.kept {w w' : World} {rb : Nat} {l : BB} {s : Sst} (h : Rsd w rb l s) (hk : ∀ k, k ≤ rb → w'.heap[k]? = w.heap[k]?) : Rsd w' rb l s := by
  obtain ⟨a, c, t, h1, h2, h3, h4, h5, h6⟩ := h.cells
  have e := hk rb (Nat.le_refl _)
  exact ⟨⟨a, c, t, (cell_kept e _).trans h1, (cell_kept e _).trans h2, readsV_kept h3 fun h0 x hx => hk _ (Nat.le_of_lt (h4 h0 x hx)), h4, h5, h6⟩, (cell_kept e _).trans h.err, fun i => by have := h.free i; simp only [World.frozen?] at this ⊢; rw [e]; exact this, h.nil⟩
theorem Rsd.below {w w' : World} {rb B : Nat} {l : BB} {s : Sst} (h : Rsd w rb l s) (hb : Below B w w') (hB : rb < B) : Rsd w' rb l s := h.kept fun k hk => hb.block k (by omega)
theorem Rsd.alloc {w : World} {rb : Nat} {l : BB} {s : Sst} (h : Rsd w rb l s) (o : Obj) : Rsd (w.alloc o) rb l s := h.below ((Below.refl _ _).alloc (Nat.le_refl _) o) h.lt
theorem Rsd.set {w : World} {rb : Nat} {l : BB} {s : Sst} (h : Rsd w rb l s) {p : Addr} (hp : rb < p.block) (x : Value) : Rsd (w.setCell p x) rb l s := h.kept fun k hk => Below.heap_setCell _ _ _ _ (by omega)
theorem Rsd.both {w : World} {rb : Nat} {l : BB} {s : Sst} (h : Rsd w rb l s) {er t : Nat} {r : BB} (ht : t ≤ l.length) (h0 : er = 0 → r = l.drop t) (h1 : er ≠ 0 → r = []) : Rsd ((w.setCell ⟨rb, 2, none⟩ (.int .i64 (er : Nat))).setCell ⟨rb, 1, none⟩ (.int .i64 (t : Nat))) rb l ⟨er, r⟩ := by
  obtain ⟨a, c, t0, q1, q2, q3, q4, q5, q6⟩ := h.cells
  refine ⟨⟨a, c, t, cell_set (cell_set q1), cell_set (cell_set q2), readsV_kept q3 fun h0 x hx => ?_, q4, ht, h0⟩, cell_set (cell_set h.err), fun i => by simp only [World.frozen?_setCell]; exact h.free i, h1⟩
  have := q4 h0 x hx
  exact (Below.heap_setCell _ _ _ _ (by show x.block ≠ rb; omega)).trans (Below.heap_setCell _ _ _ _ (by show x.block ≠ rb; omega))
theorem Rsd.fails {w : World} {rb : Nat} {l : BB} {s : Sst} (h : Rsd w rb l s) {er : Nat} (h1 : er ≠ 0) : Rsd (w.setCell ⟨rb, 2, none⟩ (.int .i64 (er : Nat))) rb l ⟨er, []⟩ := by
  obtain ⟨a, c, t0, q1, q2, q3, q4, q5, q6⟩ := h.cells
  refine ⟨⟨a, c, t0, cell_set q1, cell_set q2, readsV_kept q3 fun h0 x hx => ?_, q4, q5, fun q => absurd q h1⟩, cell_set h.err, fun i => by simp only [World.frozen?_setCell]; exact h.free i, fun _ => rfl⟩
  have := q4 h0 x hx
  exact Below.heap_setCell _ _ _ _ (by show x.block ≠ rb; omega)
theorem Rsd.goes {w : World} {rb : Nat} {l : BB} {s : Sst} (h : Rsd w rb l s) {t : Nat} (he : s.err = 0) (ht : t ≤ l.length) : Rsd (w.setCell ⟨rb, 1, none⟩ (.int .i64 (t : Nat))) rb l ⟨0, l.drop t⟩ := by
  obtain ⟨a, c, t0, q1, q2, q3, q4, q5, q6⟩ := h.cells
  have hE := h.err
  rw [he] at hE
  refine ⟨⟨a, c, t, cell_set q1, cell_set q2, readsV_kept q3 fun h0 x hx => ?_, q4, ht, fun _ => rfl⟩, cell_set hE, fun i => by simp only [World.frozen?_setCell]; exact h.free i, fun q => absurd rfl q⟩
  have := q4 h0 x hx
  exact Below.heap_setCell _ _ _ _ (by show x.block ≠ rb; omega)
theorem fr_one {rb o : Nat} {w w' : World} (h : Fr rb w w') (u : Value) : Fr rb w (w'.setCell ⟨rb, o, none⟩ u) := h.setCell (p := ⟨rb, o, none⟩) (.inl rfl) u
theorem after_stay {α : Type} {f : Rds α} {s : Sst} {x : α} (h : s.err ≠ 0) : After f s x s := by unfold After; rw [if_pos h]
theorem after_er {α : Type} {f : Rds α} {s : Sst} {x : α} {e : Nat} (he : s.err = 0) (h : f s.rest = .error e) (hz : e ≠ 0) : After f s x ⟨e, []⟩ := by unfold After; rw [if_neg (by omega), h]; exact ⟨hz, rfl⟩
theorem drop_cons {l : BB} {t : Nat} (h : t < l.length) : l.drop t = V.nth l t :: l.drop (t + 1) := by
  rw [List.drop_eq_getElem_cons h]
  congr 1
  simp [V.nth, List.getD_eq_getElem?_getD, h]
theorem Rsd.drew {w : World} {rb : Nat} {l : BB} {s : Sst} (h : Rsd w rb l s) : Rsd w.drew rb l s := h.kept fun _ _ => rfl
theorem fr_drew {rb : Nat} {w w' : World} (h : Fr rb w w') : Fr rb w w'.drew := h.trans (.of_below (Below.drew (Below.refl _ _)))
/-- The document's ReadUint. -/
theorem ruint_read (v : Value) (l : BB) (w : World) (h : V.ReadsV w v l) : Calls Try.prog 82 #[v] w fun e w' => w' = w ∧ ∃ (m k er : Nat), e = .returned (.tuple #[.int .u64 m, .int .i64 k, .int .i64 er]) ∧ m < 18446744073709551616 ∧ k ≤ l.length ∧ ((uE l = .ok (m, l.drop k) ∧ er = 0) ∨ (uE l = .error er ∧ er ≠ 0)) := by
  rcases hq : uE l with er | ⟨m, r⟩
  · obtain ⟨q1, q2⟩ := uE_bad hq
    refine (V.rreadUint_err v l er w h q1 q2).mono ?_
    rintro e w' ⟨rfl, rfl⟩
    exact ⟨rfl, 0, 0, er, rfl, by omega, Nat.zero_le _, .inr ⟨rfl, NZ.u _ _ hq⟩⟩
  · obtain ⟨k, q1, q2, q3⟩ := uE_rd hq
    refine (V.rreadUint_ok v l k _ w h q1 rfl).mono ?_
    rintro e w' ⟨rfl, rfl⟩
    exact ⟨rfl, m, k, 0, by rw [q2]; rfl, (uE_ok hq).2, (rd0_ok q1).2.1, .inl ⟨by rw [q3], rfl⟩⟩
set_option maxRecDepth 100000 in
set_option maxHeartbeats 800000 in
theorem One_any (rb : Nat) (l : BB) (s : Sst) (w : World) (hl : l.length ≤ 3000) (h : Rsd w rb l s) : Calls Try.prog 83 #[.pointer (some ⟨rb, 0, none⟩)] w fun e w' => ∃ (x : Nat) (s' : Sst), (e = .returned (.int .i64 x) ∧ x ≤ 255) ∧ After byteE s x s' ∧ Rsd w' rb l s' ∧ Fr rb w w' := by
  have HR : Hid (Rsd w rb l s) := h
  obtain ⟨a, c, t, q1, q2, q3, q4, q5, q6⟩ := h.cells
  have q7 := h.err
  have q8 := h.free
  have hlt := h.lt
  by_cases he : s.err = 0
  · have HE : Hid (s.err = 0 ∧ s.rest = l.drop t) := ⟨he, q6 he⟩
    rw [he] at q7
    clear h q6 he
    by_cases ht : t < l.length
    · have hcap := V.ReadsV.cap q3
      obtain ⟨g, off, rfl, hg, hc⟩ := V.cells_of q3 (by omega)
      have hgr : g < rb := q4 (fun e0 => by rw [e0] at ht; simp at ht) _ rfl
      have hct := hc t ht
      have HF : Hid (After byteE s (V.nth l t).toNat ⟨0, l.drop (t + 1)⟩ ∧ Rsd (w.setCell ⟨rb, 1, none⟩ (.int .i64 ((t : Int) + 1))) rb l ⟨0, l.drop (t + 1)⟩) := by
        refine ⟨after_zero (r := l.drop (t + 1)) (by rw [HE.out.2, drop_cons ht]; rfl) HE.out.1 rfl, ?_⟩
        have := HR.out.goes (t := t + 1) HE.out.1 (by omega)
        rw [show ((t + 1 : Nat) : Int) = (t : Int) + 1 by omega] at this
        exact this
      have hB : V.B (V.nth l t) = ((V.nth l t).toNat : Int) := rfl
      rw [hB] at hct
      have hb8 := (V.nth l t).isLt
      have hcm : c ≤ 9223372036854775807 := by obtain ⟨_, _, e, _, _, q, _⟩ := q3; simp only [Value.slice.injEq] at e; rw [e.2.2]; exact q
      clear q3 q4 hc HR HE hB
      generalize (V.nth l t).toNat = m at *
      generalize hnl : l.length = nl at *
      clear hnl
      go_enter Try.func83, Try.ntmps83
      go_wp2
      go_region
      all_goals go_wp2
      all_goals go_region
      all_goals go_wp2
      all_goals (
        go_ret
        exact ⟨m, _, ⟨rfl, by omega⟩, HF.out.1, HF.out.2.drew.drew, fr_drew (fr_drew (fr_one (Fr.refl _ _) _))⟩)
    · have HF : Hid (After byteE s 0 ⟨5, []⟩ ∧ Rsd (w.setCell ⟨rb, 2, none⟩ (.int .i64 5)) rb l ⟨5, []⟩ ∧ Rsd (w.drew.setCell ⟨rb, 2, none⟩ (.int .i64 5)) rb l ⟨5, []⟩) := ⟨after_er HE.out.1 (by rw [HE.out.2, List.drop_of_length_le (by omega)]; rfl) (by decide), HR.out.fails (er := 5) (by decide), HR.out.drew.fails (er := 5) (by decide)⟩
      have hcap := V.ReadsV.cap q3
      clear q3 q4 HR HE
      generalize hnl : l.length = nl at *
      clear hnl
      go_enter Try.func83, Try.ntmps83
      go_wp2
      go_region
      all_goals go_wp2
      all_goals (
        go_ret
        first
          | exact ⟨0, _, ⟨rfl, by omega⟩, HF.out.1, HF.out.2.2, fr_one (fr_drew (Fr.refl _ _)) _⟩
          | exact ⟨0, _, ⟨rfl, by omega⟩, HF.out.1, HF.out.2.1.drew, fr_drew (fr_one (Fr.refl _ _) _)⟩)
  · have hz : ¬ (s.err : Int) = 0 := by omega
    have HE : Hid (s.err ≠ 0) := he
    clear q3 q4 q6 he h
    generalize hnl : l.length = nl at *
    clear hnl
    generalize hse : s.err = er at *
    have HSE : Hid (s.err = er) := hse
    clear hse
    go_enter Try.func83, Try.ntmps83
    go_wp2
    go_ret
    exact ⟨0, s, ⟨rfl, by omega⟩, after_stay (by rw [HSE.out]; exact HE.out), HR.out, Fr.refl _ _⟩
end
section
open Go.RowKit
set_option linter.unusedVariables false

theorem rs_done {α : Type} {f : Rds α} {x : α} {w : World} {rb k er t : Nat} {l : BB} {s : Sst} (h : Rsd w rb l s) (he : s.err = 0) (hr : s.rest = l.drop t) (hk : t + k ≤ l.length) (ho : (f (l.drop t) = .ok (x, (l.drop t).drop k) ∧ er = 0) ∨ (f (l.drop t) = .error er ∧ er ≠ 0)) :
    ∃ s', After f s x s' ∧ Rsd ((w.setCell ⟨rb, 2, none⟩ (.int .i64 er)).setCell ⟨rb, 1, none⟩ (.int .i64 ((t : Int) + k))) rb l s' := by
  rw [show (t : Int) + k = ((t + k : Nat) : Int) by omega]
  rcases ho with ⟨h1, rfl⟩ | ⟨h1, h2⟩
  · exact ⟨⟨0, l.drop (t + k)⟩, after_zero (r := l.drop (t + k)) (by rw [hr, h1, List.drop_drop]) he rfl, h.both hk (fun _ => rfl) (fun q => absurd rfl q)⟩
  · exact ⟨⟨er, []⟩, after_er he (by rw [hr]; exact h1) h2, h.both hk (fun q => absurd q h2) (fun _ => rfl)⟩
/-- What lies behind a place, as a slice. -/
structure Cu (w : World) (a : Option Addr) (nl c t : Nat) (l : BB) : Prop where
  z : c = t → ∀ w' : World, (∀ k : Nat, w'.heap[k]? = w.heap[k]?) → V.ReadsV w' (.slice a 0 0) (l.drop t)
  s : ¬ c = t → ∀ w' : World, (∀ k : Nat, w'.heap[k]? = w.heap[k]?) → V.ReadsV w' (.slice (a.map (fun x => x.add t)) (nl - t) (c - t)) (l.drop t)
theorem cu_of {w : World} {a : Option Addr} {c t : Nat} {l : BB} (h : V.ReadsV w (.slice a l.length c) l) (ht : t ≤ l.length) : Cu w a l.length c t l :=
  ⟨fun hc w' hk => readsV_kept (V.tailB (b := a) (k := t) h (by omega)) fun _ x _ => hk _, fun hc w' hk => readsV_kept (V.tailA (k := t) h ht hc) fun _ x _ => hk _⟩
/-- Where bytes lie. -/
def Blk (rb : Nat) (v : Value) (l : BB) : Prop := l ≠ [] → ∀ a n c, v = .slice (some a) n c → a.block < rb
theorem blk_z {rb : Nat} {a : Option Addr} {t : Nat} {l : BB} (h : l ≠ [] → ∀ x, a = some x → x.block < rb) (n c : Nat) : Blk rb (.slice a n c) (l.drop t) := fun h0 b n' c' e => by
  simp only [Value.slice.injEq] at e
  exact h (fun q => h0 (by rw [q]; simp)) _ e.1
theorem blk_s {rb : Nat} {a : Option Addr} {t : Nat} {l : BB} (h : l ≠ [] → ∀ x, a = some x → x.block < rb) (n c : Nat) : Blk rb (.slice (a.map (fun x => x.add t)) n c) (l.drop t) := fun h0 b n' c' e => by
  simp only [Value.slice.injEq] at e
  cases a with
  | none => simp at e
  | some x =>
    simp only [Option.map_some, Option.some.injEq] at e
    rw [← e.1, V.add_block]
    exact h (fun q => h0 (by rw [q]; simp)) _ rfl
set_option maxRecDepth 100000 in
theorem rbytes_near (v : Value) (l : List (BitVec 8)) (k m : Nat) (w : World) (h : V.ReadsV w v l) (hk : V.Pack.rd 0 l = .inl k) (hm : V.Pack.val (l.take k) = m) (hlt : m ≤ l.length - k) :
    Calls Try.prog 72 #[v] w fun e w' => ∃ sv, e = .returned (.tuple #[sv, .int .i64 ((k : Int) + m), .int .i64 0]) ∧ V.ReadsV w sv ((l.drop k).take m) ∧ V.Near v sv ∧ w' = w := by
  have HR : Hid (V.ReadsV w v l) := h
  have HK : Hid (V.Pack.rd 0 l = .inl k) := hk
  have HM : Hid (V.Pack.val (l.take k) = m) := hm
  have hm64 : m < 18446744073709551616 := by rw [← hm]; exact (V.Pack.rd0_ok hk).2.2.2.2
  have hkl := (V.Pack.rd0_ok hk).2.1
  obtain ⟨a, c, rfl, _, hlc, hcm, hr⟩ := h
  obtain ⟨n, hn⟩ : ∃ n, l.length = n := ⟨_, rfl⟩
  rw [hn] at HR hlc hlt hkl ⊢
  have hcm2 : c ≤ 9223372036854775807 := hcm
  clear hcm
  have hlt' : ¬ (n : Int) - k < m := by omega
  clear hk hm hn hr hlt
  go_enter Try.func72, Try.ntmps72
  go_wp2_with (go_at_call 82; refine (V.rreadUint_ok _ l k m _ HR.out HK.out HM.out).mono ?_; rintro e w' ⟨rfl, rfl⟩)
  · go_ret3
    exact ⟨_, rfl, V.piece0 HR.out hkl (by omega) (by assumption), V.near_cut _ _ _ _ _, rfl⟩
  · go_ret3
    exact ⟨_, rfl, V.piece HR.out hkl (by omega) (by assumption), V.near_add _ _ _ _ _ _ (fun x => V.add_block x _), rfl⟩
/-- The document's ReadBytes, and where what it tells lies. -/
theorem rbytes_blk (rb : Nat) (v : Value) (l : BB) (w : World) (h : V.ReadsV w v l) (hb : Blk rb v l) : Calls Try.prog 72 #[v] w fun e w' => w' = w ∧ ∃ (x : BB) (sa : Option Addr) (sn sc : Nat) (k er : Nat), e = .returned (.tuple #[.slice sa sn sc, .int .i64 k, .int .i64 er]) ∧ V.ReadsV w (.slice sa sn sc) x ∧ (x ≠ [] → ∀ y, sa = some y → y.block < rb) ∧ k ≤ l.length ∧ ((textE l = .ok (x, l.drop k) ∧ er = 0) ∨ (textE l = .error er ∧ er ≠ 0)) := by
  rcases hq : textE l with er | ⟨x, r⟩
  · have hz := NZ.text _ _ hq
    rcases textE_bad hq with ⟨q1, q2⟩ | ⟨rfl, k, q1, q2⟩
    · refine (V.rreadBytes_err v l er w h q1 q2).mono ?_
      rintro e w' ⟨rfl, rfl⟩
      exact ⟨rfl, [], none, 0, 0, 0, er, rfl, V.ReadsV.nil _, fun h0 => absurd rfl h0, Nat.zero_le _, .inr ⟨rfl, hz⟩⟩
    · refine (V.rreadBytes_short v l k _ w h q1 rfl q2).mono ?_
      rintro e w' ⟨rfl, rfl⟩
      exact ⟨rfl, [], none, 0, 0, 0, 5, rfl, V.ReadsV.nil _, fun h0 => absurd rfl h0, Nat.zero_le _, .inr ⟨rfl, hz⟩⟩
  · obtain ⟨k, q1, q2, q3, q4⟩ := textE_rd hq
    refine (rbytes_near v l k _ w h q1 rfl q2).mono ?_
    rintro e w' ⟨sv, rfl, q5, q6, rfl⟩
    rw [q3] at q5
    have q5' := q5
    obtain ⟨sa, sc, rfl, _⟩ := q5'
    refine ⟨rfl, x, sa, _, sc, k + V.Pack.val (l.take k), 0, by push_cast; rfl, q5, fun h0 y hy => ?_, by have := (V.Pack.rd0_ok q1).2.1; omega, .inl ⟨by rw [q4], rfl⟩⟩
    subst hy
    have hl0 : l ≠ [] := fun e0 => h0 (by rw [← q3, e0]; simp)
    exact q6 (fun b => b < rb) (fun a n c e => hb hl0 a n c e) y _ _ rfl
def UintP (most rb : Nat) (l : BB) (s : Sst) (w : World) (e : Ending) (w' : World) : Prop := ∃ (x : Nat) (s' : Sst), (e = .returned (.int .i64 x) ∧ x ≤ most) ∧ After (uintE most) s x s' ∧ Rsd w' rb l s' ∧ Fr rb w w'
set_option maxRecDepth 100000 in
set_option maxHeartbeats 800000 in
theorem Text_any (rb : Nat) (l : BB) (s : Sst) (w : World) (hl : l.length ≤ 3000) (h : Rsd w rb l s) : Calls Try.prog 49 #[.pointer (some ⟨rb, 0, none⟩)] w fun e w' => ∃ (x : BB) (s' : Sst), e = .returned (.string (ba (bn x))) ∧ x.length ≤ 9223372036854775807 ∧ After textE s x s' ∧ Rsd w' rb l s' ∧ Fr rb w w' := by
  have HR : Hid (Rsd w rb l s) := h
  obtain ⟨a, c, t, q1, q2, q3, q4, q5, q6⟩ := h.cells
  have q7 := h.err
  have q8 := h.free
  have hlt := h.lt
  have hcap := V.ReadsV.cap q3
  have hcm : c ≤ 9223372036854775807 := by obtain ⟨_, _, e, _, _, q, _⟩ := q3; simp only [Value.slice.injEq] at e; rw [e.2.2]; exact q
  have HCu : Hid (Cu w a l.length c t l) := cu_of q3 q5
  have HBz : Hid (∀ n c, Blk rb (.slice a n c) (l.drop t)) := fun n c => blk_z q4 n c
  have HBs : Hid (∀ n c, Blk rb (.slice (a.map (fun x => x.add t)) n c) (l.drop t)) := fun n c => blk_s q4 n c
  by_cases he : s.err = 0
  · have HE : Hid (s.err = 0 ∧ s.rest = l.drop t) := ⟨he, q6 he⟩
    rw [he] at q7
    have H72 : Hid (∀ v w, V.ReadsV w v (l.drop t) → Blk rb v (l.drop t) → Calls Try.prog 72 #[v] w fun e w' => w' = w ∧ ∃ (x : BB) (sa : Option Addr) (sn sc : Nat) (k er : Nat), e = .returned (.tuple #[.slice sa sn sc, .int .i64 k, .int .i64 er]) ∧ V.ReadsV w (.slice sa sn sc) x ∧ (x ≠ [] → ∀ y, sa = some y → y.block < rb) ∧ k ≤ (l.drop t).length ∧ ((textE (l.drop t) = .ok (x, (l.drop t).drop k) ∧ er = 0) ∨ (textE (l.drop t) = .error er ∧ er ≠ 0))) := fun v w q q2 => rbytes_blk rb v _ w q q2
    clear h q3 q4 q6 he
    generalize hnl : l.length = nl at *
    have HNL : Hid (l.length = nl) := hnl
    clear hnl
    rcases Decidable.em (c = t) with hct | hct
    · subst hct
      go_enter Try.func49, Try.ntmps49
      go_wp2_with fail
      go_region_with (go_at_call 72; refine (H72.out _ _ (HCu.out.z rfl w.drew (fun _ => rfl)) (HBz.out _ _)).mono ?_; rintro e w9 ⟨h9, x, sa, sn, sc, k, er, rfl, hn, hy, hk, ho⟩; have h10 := h9.symm; clear h9; subst h10; have hkt : c + k ≤ nl := (by rw [List.length_drop, HNL.out] at hk; omega); have hcv := V.convert_str (w := ((w.setCell ⟨rb, 2, none⟩ (.int .i64 (er : Nat))).setCell ⟨rb, 1, none⟩ (.int .i64 ((c : Int) + k))).drew) (readsV_kept hn fun h0 y hsy => (Below.heap_setCell _ _ _ _ (Nat.ne_of_lt (hy h0 y hsy))).trans (Below.heap_setCell _ _ _ _ (Nat.ne_of_lt (hy h0 y hsy)))); rw [str_bn] at hcv; have HO : Hid (x.length ≤ 9223372036854775807 ∧ ((textE (l.drop c) = .ok (x, (l.drop c).drop k) ∧ er = 0) ∨ (textE (l.drop c) = .error er ∧ er ≠ 0))) := ⟨reads_len hn, ho⟩; clear hn ho hk hy; generalize hST : ba (bn x) = st at *; have HST : Hid (ba (bn x) = st) := hST; clear hST)
      all_goals go_wp2
      all_goals (
        go_ret
        obtain ⟨s', g1, g2⟩ := rs_done (x := x) HR.out HE.out.1 HE.out.2 (by rw [HNL.out]; exact hkt) HO.out.2
        exact ⟨x, s', by rw [HST.out]; rfl, HO.out.1, g1, g2.drew, fr_drew (fr_one (fr_one (Fr.refl _ _) _) _)⟩)
    · have hct2 : ¬ t = c := fun q => hct q.symm
      go_enter Try.func49, Try.ntmps49
      go_wp2_with fail
      go_region_with (go_at_call 72; refine (H72.out _ _ (HCu.out.s hct w.drew (fun _ => rfl)) (HBs.out _ _)).mono ?_; rintro e w9 ⟨h9, x, sa, sn, sc, k, er, rfl, hn, hy, hk, ho⟩; have h10 := h9.symm; clear h9; subst h10; have hkt : t + k ≤ nl := (by rw [List.length_drop, HNL.out] at hk; omega); have hcv := V.convert_str (w := ((w.setCell ⟨rb, 2, none⟩ (.int .i64 (er : Nat))).setCell ⟨rb, 1, none⟩ (.int .i64 ((t : Int) + k))).drew) (readsV_kept hn fun h0 y hsy => (Below.heap_setCell _ _ _ _ (Nat.ne_of_lt (hy h0 y hsy))).trans (Below.heap_setCell _ _ _ _ (Nat.ne_of_lt (hy h0 y hsy)))); rw [str_bn] at hcv; have HO : Hid (x.length ≤ 9223372036854775807 ∧ ((textE (l.drop t) = .ok (x, (l.drop t).drop k) ∧ er = 0) ∨ (textE (l.drop t) = .error er ∧ er ≠ 0))) := ⟨reads_len hn, ho⟩; clear hn ho hk hy; generalize hST : ba (bn x) = st at *; have HST : Hid (ba (bn x) = st) := hST; clear hST)
      all_goals go_wp2
      all_goals (
        go_ret
        obtain ⟨s', g1, g2⟩ := rs_done (x := x) HR.out HE.out.1 HE.out.2 (by rw [HNL.out]; exact hkt) HO.out.2
        exact ⟨x, s', by rw [HST.out]; rfl, HO.out.1, g1, g2.drew, fr_drew (fr_one (fr_one (Fr.refl _ _) _) _)⟩)
  · have hz : ¬ (s.err : Int) = 0 := by omega
    have HE : Hid (s.err ≠ 0) := he
    clear q3 q4 q6 he h HCu
    generalize hnl : l.length = nl at *
    clear hnl
    generalize hse : s.err = er at *
    have HSE : Hid (s.err = er) := hse
    clear hse
    go_enter Try.func49, Try.ntmps49
    go_wp2
    go_ret
    exact ⟨[], s, rfl, by decide, after_stay (by rw [HSE.out]; exact HE.out), HR.out, Fr.refl _ _⟩
set_option maxRecDepth 100000 in
set_option maxHeartbeats 800000 in
theorem Uint_any (rb : Nat) (l : BB) (s : Sst) (w : World) (most : Nat) (hl : l.length ≤ 3000) (hmost : most ≤ 1000000) (h : Rsd w rb l s) : Calls Try.prog 50 #[.pointer (some ⟨rb, 0, none⟩), .int .u64 most] w fun e w' => UintP most rb l s w e w' := by
  have HR : Hid (Rsd w rb l s) := h
  obtain ⟨a, c, t, q1, q2, q3, q4, q5, q6⟩ := h.cells
  have q7 := h.err
  have q8 := h.free
  have hlt := h.lt
  have hcap := V.ReadsV.cap q3
  have hcm : c ≤ 9223372036854775807 := by obtain ⟨_, _, e, _, _, q, _⟩ := q3; simp only [Value.slice.injEq] at e; rw [e.2.2]; exact q
  have HCu : Hid (Cu w a l.length c t l) := cu_of q3 q5
  have HBz : Hid (∀ n c, Blk rb (.slice a n c) (l.drop t)) := fun n c => blk_z q4 n c
  have HBs : Hid (∀ n c, Blk rb (.slice (a.map (fun x => x.add t)) n c) (l.drop t)) := fun n c => blk_s q4 n c
  by_cases he : s.err = 0
  · have HE : Hid (s.err = 0 ∧ s.rest = l.drop t) := ⟨he, q6 he⟩
    rw [he] at q7
    have H82 : Hid (∀ v w, V.ReadsV w v (l.drop t) → Calls Try.prog 82 #[v] w fun e w' => w' = w ∧ ∃ (m k er : Nat), e = .returned (.tuple #[.int .u64 m, .int .i64 k, .int .i64 er]) ∧ m < 18446744073709551616 ∧ k ≤ (l.drop t).length ∧ ((uE (l.drop t) = .ok (m, (l.drop t).drop k) ∧ er = 0) ∨ (uE (l.drop t) = .error er ∧ er ≠ 0))) := fun v w q => ruint_read v _ w q
    have HU1 : Hid (∀ m r, uE (l.drop t) = .ok (m, r) → m ≤ most → uintE most (l.drop t) = .ok (m, r)) := fun m r q hm => by
      show bindE uE _ _ = _
      rw [bindE_ok q, if_neg (by omega)]; rfl
    have HU2 : Hid (∀ m r, uE (l.drop t) = .ok (m, r) → most < m → uintE most (l.drop t) = .error 6) := fun m r q hm => by
      show bindE uE _ _ = _
      rw [bindE_ok q, if_pos hm]; rfl
    have HU3 : Hid (∀ er, uE (l.drop t) = .error er → uintE most (l.drop t) = .error er) := fun er q => bindE_err q
    clear h q3 q4 q6 he
    generalize hnl : l.length = nl at *
    have HNL : Hid (l.length = nl) := hnl
    clear hnl
    rcases Decidable.em (c = t) with hct | hct
    · subst hct
      go_enter Try.func50, Try.ntmps50
      go_wp2_with fail
      go_region_with (go_at_call 82; refine (H82.out _ _ (HCu.out.z rfl w.drew (fun _ => rfl))).mono ?_; rintro e w9 ⟨h9, m, k, er, rfl, hm, hk, ho⟩; have h10 := h9.symm; clear h9; subst h10; have hkt : c + k ≤ nl := (by rw [List.length_drop, HNL.out] at hk; omega); clear hk; have HO : Hid ((uE (l.drop c) = .ok (m, (l.drop c).drop k) ∧ er = 0) ∨ (uE (l.drop c) = .error er ∧ er ≠ 0)) := ho; clear ho)
      all_goals (
        by_cases hz : er = 0
        · subst hz
          have HO2 : Hid (uE (l.drop c) = .ok (m, (l.drop c).drop k)) := by rcases HO.out with ⟨q, _⟩ | ⟨_, q⟩; exact q; exact absurd rfl q
          by_cases hmm : most < m
          · go_wp2
            go_ret
            exact ⟨0, ⟨6, []⟩, ⟨rfl, Nat.zero_le _⟩, after_er HE.out.1 (by rw [HE.out.2]; exact HU2.out _ _ HO2.out hmm) (by decide), (HR.out.fails (er := 6) (by decide)).drew, fr_drew (fr_one (Fr.refl _ _) _)⟩
          · go_wp2
            go_ret
            obtain ⟨s', g1, g2⟩ := rs_done (f := uintE most) (x := m) (er := 0) HR.out HE.out.1 HE.out.2 (by rw [HNL.out]; exact hkt) (.inl ⟨HU1.out _ _ HO2.out (by omega), rfl⟩)
            exact ⟨m, s', ⟨rfl, by omega⟩, g1, g2.drew, fr_drew (fr_one (fr_one (Fr.refl _ _) _) _)⟩
        · have hz2 : ¬ (er : Int) = 0 := by omega
          have HO2 : Hid (uE (l.drop c) = .error er) := by rcases HO.out with ⟨_, q⟩ | ⟨q, _⟩; exact absurd q hz; exact q
          go_wp2
          go_ret
          exact ⟨0, ⟨er, []⟩, ⟨rfl, Nat.zero_le _⟩, after_er HE.out.1 (by rw [HE.out.2]; exact HU3.out _ HO2.out) hz, (HR.out.fails (er := er) hz).drew, fr_drew (fr_one (Fr.refl _ _) _)⟩)
    · have hct2 : ¬ t = c := fun q => hct q.symm
      go_enter Try.func50, Try.ntmps50
      go_wp2_with fail
      go_region_with (go_at_call 82; refine (H82.out _ _ (HCu.out.s hct w.drew (fun _ => rfl))).mono ?_; rintro e w9 ⟨h9, m, k, er, rfl, hm, hk, ho⟩; have h10 := h9.symm; clear h9; subst h10; have hkt : t + k ≤ nl := (by rw [List.length_drop, HNL.out] at hk; omega); clear hk; have HO : Hid ((uE (l.drop t) = .ok (m, (l.drop t).drop k) ∧ er = 0) ∨ (uE (l.drop t) = .error er ∧ er ≠ 0)) := ho; clear ho)
      all_goals (
        by_cases hz : er = 0
        · subst hz
          have HO2 : Hid (uE (l.drop t) = .ok (m, (l.drop t).drop k)) := by rcases HO.out with ⟨q, _⟩ | ⟨_, q⟩; exact q; exact absurd rfl q
          by_cases hmm : most < m
          · go_wp2
            go_ret
            exact ⟨0, ⟨6, []⟩, ⟨rfl, Nat.zero_le _⟩, after_er HE.out.1 (by rw [HE.out.2]; exact HU2.out _ _ HO2.out hmm) (by decide), (HR.out.fails (er := 6) (by decide)).drew, fr_drew (fr_one (Fr.refl _ _) _)⟩
          · go_wp2
            go_ret
            obtain ⟨s', g1, g2⟩ := rs_done (f := uintE most) (x := m) (er := 0) HR.out HE.out.1 HE.out.2 (by rw [HNL.out]; exact hkt) (.inl ⟨HU1.out _ _ HO2.out (by omega), rfl⟩)
            exact ⟨m, s', ⟨rfl, by omega⟩, g1, g2.drew, fr_drew (fr_one (fr_one (Fr.refl _ _) _) _)⟩
        · have hz2 : ¬ (er : Int) = 0 := by omega
          have HO2 : Hid (uE (l.drop t) = .error er) := by rcases HO.out with ⟨_, q⟩ | ⟨q, _⟩; exact absurd q hz; exact q
          go_wp2
          go_ret
          exact ⟨0, ⟨er, []⟩, ⟨rfl, Nat.zero_le _⟩, after_er HE.out.1 (by rw [HE.out.2]; exact HU3.out _ HO2.out) hz, (HR.out.fails (er := er) hz).drew, fr_drew (fr_one (Fr.refl _ _) _)⟩)
  · have hz : ¬ (s.err : Int) = 0 := by omega
    have HE : Hid (s.err ≠ 0) := he
    clear q3 q4 q6 he h HCu
    generalize hnl : l.length = nl at *
    clear hnl
    generalize hse : s.err = er at *
    have HSE : Hid (s.err = er) := hse
    clear hse
    go_enter Try.func50, Try.ntmps50
    go_wp2
    go_ret
    exact ⟨0, s, ⟨rfl, Nat.zero_le _⟩, after_stay (by rw [HSE.out]; exact HE.out), HR.out, Fr.refl _ _⟩
end
section
open Go.RowKit
set_option linter.unusedVariables false

/-- What lies behind a place, as a slice, in a later world too. -/
structure Cub (w : World) (a : Option Addr) (nl c t : Nat) (l : BB) : Prop where
  z : c = t → ∀ w' : World, Below w.heap.size w w' → V.ReadsV w' (.slice a 0 0) (l.drop t)
  s : ¬ c = t → ∀ w' : World, Below w.heap.size w w' → V.ReadsV w' (.slice (a.map (fun x => x.add t)) (nl - t) (c - t)) (l.drop t)
theorem cub_of {w : World} {a : Option Addr} {c t : Nat} {l : BB} (h : V.ReadsV w (.slice a l.length c) l) (ht : t ≤ l.length) : Cub w a l.length c t l :=
  ⟨fun hc w' hk => (V.tailB (b := a) (k := t) h (by omega)).below hk, fun hc w' hk => (V.tailA (k := t) h ht hc).below hk⟩
def MaybeP (rb : Nat) (l : BB) (s : Sst) (w : World) (e : Ending) (w' : World) : Prop := ∃ ts s' a c, e = .returned (.slice a ts.length c) ∧ ExsV w' (fun g => w.heap.size ≤ g) (.slice a ts.length c) ts ∧ ts.length ≤ 1 ∧ After maybeE s ts s' ∧ Rsd w' rb l s' ∧ Fr rb w w'
theorem MaybeP.none {rb : Nat} {l : BB} {s s' : Sst} {w w' : World} (h1 : After maybeE s [] s') (h2 : Rsd w' rb l s') (h3 : Fr rb w w') : MaybeP rb l s w (.returned (.slice none 0 0)) w' := ⟨[], s', .none, 0, rfl, ExsV.nil _ _, Nat.zero_le _, h1, h2, h3⟩
set_option maxRecDepth 100000 in
set_option maxHeartbeats 4000000 in
theorem Maybe_any (rb : Nat) (l : BB) (s : Sst) (w : World) (hl : l.length ≤ 3000) (h : Rsd w rb l s) : Calls Try.prog 84 #[.pointer (some ⟨rb, 0, none⟩)] w (MaybeP rb l s w) := by
  have hlt := h.lt
  have H83 : Hid (Calls Try.prog 83 #[.pointer (some ⟨rb, 0, none⟩)] w fun e w' => ∃ (x : Nat) (s' : Sst), (e = .returned (.int .i64 x) ∧ x ≤ 255) ∧ After byteE s x s' ∧ Rsd w' rb l s' ∧ Fr rb w w') := One_any rb l s w hl h
  have H15 : Hid (∀ v w r, V.ReadsV w v r → r.length ≤ 3000 → Calls Try.prog 15 #[v] w (RXP r w)) := fun v w r q hr => RReadExpr_any v r w q (by omega)
  have HA : Hid (∀ x s1 ts s2, After byteE s x s1 → After (if x = 0 then pureE [] else if x = 1 then bindE exprE fun t => pureE [t] else failE 3) s1 ts s2 → After maybeE s ts s2) := fun x s1 ts s2 q1 q2 => q1.bind q2
  clear h
  go_enter Try.func84, Try.ntmps84
  go_wp2_with (go_at_call 83; refine H83.out.mono ?_; rintro e w2 ⟨x, s1, ⟨rfl, hx⟩, qa, qr, qf⟩; obtain ⟨a, c, t, q1, q2, q3, q4, q5, q6⟩ := qr.cells; have q7 := qr.err; have q8 := qr.free; have hl2 := qr.lt; have HQ : Hid (After byteE s x s1 ∧ Rsd w2 rb l s1 ∧ Fr rb w w2 ∧ V.ReadsV w2 (.slice a l.length c) l ∧ (s1.err = 0 → s1.rest = l.drop t)) := ⟨qa, qr, qf, q3, q6⟩; clear qa qr qf q3 q4 q6; generalize hse : s1.err = er at *; have HSE : Hid (s1.err = er) := hse; clear hse; have hcas : er ≠ 0 ∨ (er = 0 ∧ x = 0) ∨ (er = 0 ∧ x = 1) ∨ (er = 0 ∧ 2 ≤ x) := (by omega); rcases hcas with hz | ⟨rfl, rfl⟩ | ⟨rfl, rfl⟩ | ⟨rfl, hz⟩; have hz2 : ¬ (er : Int) = 0 := (by omega); rotate_left; skip; rotate_left; skip; rotate_left; have hz2 : ((x : Int) == 0) = false := (by rw [beq_eq_false_iff_ne]; omega); have hz3 : ¬ (x : Int) = 0 := (by omega); rotate_left)
  · go_ret
    exact MaybeP.none (HA.out _ _ _ _ HQ.out.1 (after_stay (by rw [HSE.out]; exact hz))) HQ.out.2.1 HQ.out.2.2.1
  · go_ret
    exact MaybeP.none (HA.out _ _ _ _ HQ.out.1 (by rw [if_pos rfl]; exact After.pure _ _)) HQ.out.2.1 HQ.out.2.2.1
  · have hcap := V.ReadsV.cap HQ.out.2.2.2.1
    have hcm : c ≤ 9223372036854775807 := by obtain ⟨_, _, e, _, _, q, _⟩ := HQ.out.2.2.2.1; simp only [Value.slice.injEq] at e; rw [e.2.2]; exact q
    have HCu : Hid (Cub w2 a l.length c t l) := cub_of HQ.out.2.2.2.1 q5
    have HLd : Hid ((l.drop t).length ≤ 3000) := by show _ ≤ _; rw [List.length_drop]; omega
    generalize hnl : l.length = nl at *
    have HNL : Hid (l.length = nl) := hnl
    clear hnl
    rcases Decidable.em (c = t) with hct | hct
    · subst hct
      go_region_with (go_at_call 15; first
        | (refine (H15.out _ w2.drew _ (HCu.out.z rfl _ (Below.refl _ _).drew) HLd.out).mono ?_; rintro e w3 ⟨rk, rn, rs, ra, rl, rc, kk, er, rfl, hB3, hkk, hor⟩; have HB3 : Hid (Below w2.heap.size w2 w3) := ((Below.refl _ _).drew).trans hB3; have hkt : c + kk ≤ nl := (by rw [List.length_drop, HNL.out] at hkk; omega); have HR3 : Hid (Rsd w3 rb l s1) := HQ.out.2.1.below HB3.out hl2; obtain ⟨y0, y1, y2, y3⟩ : w3.cell? ⟨rb, 0, none⟩ = some (.slice a nl c) ∧ w3.cell? ⟨rb, 1, none⟩ = some (.int .i64 (c : Nat)) ∧ w3.cell? ⟨rb, 2, none⟩ = some (.int .i64 0) ∧ ∀ i, w3.frozen? ⟨rb, i, none⟩ = false := ⟨(cell_kept (HB3.out.block rb hl2) _).trans q1, (cell_kept (HB3.out.block rb hl2) _).trans q2, (cell_kept (HB3.out.block rb hl2) _).trans q7, HR3.out.free⟩; have hl3 := HR3.out.lt; have HO : Hid (∃ tr, ((exprE (l.drop c) = .ok (tr, (l.drop c).drop kk) ∧ er = 0) ∨ (exprE (l.drop c) = .error er ∧ er ≠ 0)) ∧ Tre w3 (fun g => w2.heap.size ≤ g) (.agg #[.int .i64 rk, .int .i64 rn, .string rs, .slice ra rl rc]) tr) := (by rcases hor with ⟨tr, g1, g2, g3⟩ | ⟨g1, g2, _, rfl, rfl, rfl, rfl, rfl, rfl⟩; exact ⟨tr, .inl ⟨g1, g2⟩, g3⟩; exact ⟨⟨0, 0, [], []⟩, .inr ⟨g1, g2⟩, Tre.leaf _ _ inR_zero inR_zero [] (by decide)⟩); clear hB3 hkk hor)
        | (refine (H15.out _ (w2.alloc (.cells #[.int .i64 0, .int .i64 0, .string ⟨#[]⟩, .slice none 0 0] 31)).drew _ (HCu.out.z rfl _ ((Below.refl _ _).alloc (Nat.le_refl _) _).drew) HLd.out).mono ?_; rintro e w3 ⟨rk, rn, rs, ra, rl, rc, kk, er, rfl, hB3, hkk, hor⟩; have HB4 : Hid (Below (w2.alloc (.cells #[.int .i64 0, .int .i64 0, .string ⟨#[]⟩, .slice none 0 0] 31)).heap.size (w2.alloc (.cells #[.int .i64 0, .int .i64 0, .string ⟨#[]⟩, .slice none 0 0] 31)) w3) := ((Below.refl _ _).drew).trans hB3; have HB3 : Hid (Below w2.heap.size w2 w3) := below_new HB4.out; obtain ⟨v0, v1, v2, v3, v4⟩ := (Cell4.new w2 (.int .i64 0) (.int .i64 0) (.string ⟨#[]⟩) (.slice none 0 0) 31).below HB4.out; have HCz : Hid (Cell4 w3 w2.heap.size (.int .i64 0) (.int .i64 0) (.string ⟨#[]⟩) (.slice none 0 0)) := ⟨v0, v1, v2, v3, v4⟩; have hlv := World.block_lt_of_cell? _ _ v0; have hkt : c + kk ≤ nl := (by rw [List.length_drop, HNL.out] at hkk; omega); have HR3 : Hid (Rsd w3 rb l s1) := HQ.out.2.1.below HB3.out hl2; obtain ⟨y0, y1, y2, y3⟩ : w3.cell? ⟨rb, 0, none⟩ = some (.slice a nl c) ∧ w3.cell? ⟨rb, 1, none⟩ = some (.int .i64 (c : Nat)) ∧ w3.cell? ⟨rb, 2, none⟩ = some (.int .i64 0) ∧ ∀ i, w3.frozen? ⟨rb, i, none⟩ = false := ⟨(cell_kept (HB3.out.block rb hl2) _).trans q1, (cell_kept (HB3.out.block rb hl2) _).trans q2, (cell_kept (HB3.out.block rb hl2) _).trans q7, HR3.out.free⟩; have hl3 := HR3.out.lt; have HO : Hid (∃ tr, ((exprE (l.drop c) = .ok (tr, (l.drop c).drop kk) ∧ er = 0) ∨ (exprE (l.drop c) = .error er ∧ er ≠ 0)) ∧ Tre w3 (fun g => w2.heap.size + 1 ≤ g) (.agg #[.int .i64 rk, .int .i64 rn, .string rs, .slice ra rl rc]) tr) := (by rcases hor with ⟨tr, g1, g2, g3⟩ | ⟨g1, g2, _, rfl, rfl, rfl, rfl, rfl, rfl⟩; exact ⟨tr, .inl ⟨g1, g2⟩, g3.sub fun g hg => by have h9 : (w2.alloc (.cells #[.int .i64 0, .int .i64 0, .string ⟨#[]⟩, .slice none 0 0] 31)).drew.heap.size ≤ g := hg; rw [show (w2.alloc (.cells #[.int .i64 0, .int .i64 0, .string ⟨#[]⟩, .slice none 0 0] 31)).drew.heap.size = w2.heap.size + 1 from size_alloc _ _] at h9; exact h9⟩; exact ⟨⟨0, 0, [], []⟩, .inr ⟨g1, g2⟩, Tre.leaf _ _ inR_zero inR_zero [] (by decide)⟩); clear hB3 hkk hor))
      all_goals go_wp2
      all_goals go_ret
      all_goals first
        | (have := HCz
           obtain ⟨tr, ho, hT⟩ := HO.out
           have hR4 : Rsd ((((w3.setCell ⟨w2.heap.size, 0, none⟩ (.int .i64 rk)).setCell ⟨w2.heap.size, 1, none⟩ (.int .i64 rn)).setCell ⟨w2.heap.size, 2, none⟩ (.string rs)).setCell ⟨w2.heap.size, 3, none⟩ (.slice ra rl rc)) rb l s1 := (((HR3.out.set (p := ⟨w2.heap.size, 0, none⟩) hl2 _).set (p := ⟨w2.heap.size, 1, none⟩) hl2 _).set (p := ⟨w2.heap.size, 2, none⟩) hl2 _).set (p := ⟨w2.heap.size, 3, none⟩) hl2 _
           have hT4 : Tre ((((w3.setCell ⟨w2.heap.size, 0, none⟩ (.int .i64 rk)).setCell ⟨w2.heap.size, 1, none⟩ (.int .i64 rn)).setCell ⟨w2.heap.size, 2, none⟩ (.string rs)).setCell ⟨w2.heap.size, 3, none⟩ (.slice ra rl rc)) (fun g => w2.heap.size + 1 ≤ g) (.agg #[.int .i64 rk, .int .i64 rn, .string rs, .slice ra rl rc]) tr := (((hT.set (p := ⟨w2.heap.size, 0, none⟩) (by show ¬ w2.heap.size + 1 ≤ w2.heap.size; omega) _).set (p := ⟨w2.heap.size, 1, none⟩) (by show ¬ w2.heap.size + 1 ≤ w2.heap.size; omega) _).set (p := ⟨w2.heap.size, 2, none⟩) (by show ¬ w2.heap.size + 1 ≤ w2.heap.size; omega) _).set (p := ⟨w2.heap.size, 3, none⟩) (by show ¬ w2.heap.size + 1 ≤ w2.heap.size; omega) _
           have hF4 : Fr rb w ((((w3.setCell ⟨w2.heap.size, 0, none⟩ (.int .i64 rk)).setCell ⟨w2.heap.size, 1, none⟩ (.int .i64 rn)).setCell ⟨w2.heap.size, 2, none⟩ (.string rs)).setCell ⟨w2.heap.size, 3, none⟩ (.slice ra rl rc)) := (((((HQ.out.2.2.1.trans (.of_below HB3.out)).setCell (p := ⟨w2.heap.size, 0, none⟩) (.inr HQ.out.2.2.1.size) _).setCell (p := ⟨w2.heap.size, 1, none⟩) (.inr HQ.out.2.2.1.size) _).setCell (p := ⟨w2.heap.size, 2, none⟩) (.inr HQ.out.2.2.1.size) _).setCell (p := ⟨w2.heap.size, 3, none⟩) (.inr HQ.out.2.2.1.size) _)
           obtain ⟨s', g1, g2⟩ := rs_done (f := exprE) (x := tr) hR4 HSE.out (HQ.out.2.2.2.2 (by first | trivial | rfl)) (by rw [HNL.out]; exact hkt) ho
           have hsz : ((((((w3.setCell ⟨w2.heap.size, 0, none⟩ (.int .i64 rk)).setCell ⟨w2.heap.size, 1, none⟩ (.int .i64 rn)).setCell ⟨w2.heap.size, 2, none⟩ (.string rs)).setCell ⟨w2.heap.size, 3, none⟩ (.slice ra rl rc)).setCell ⟨rb, 2, none⟩ (.int .i64 er)).setCell ⟨rb, 1, none⟩ (.int .i64 ((c : Int) + kk))).heap.size = w3.heap.size := by simp [World.setCell]
           have hT2 := ((hT4.set (p := ⟨rb, 2, none⟩) (by show ¬ w2.heap.size + 1 ≤ rb; omega) (.int .i64 er)).set (p := ⟨rb, 1, none⟩) (by show ¬ w2.heap.size + 1 ≤ rb; omega) (.int .i64 ((c : Int) + kk))).alloc (.cells #[.int .i64 rk, .int .i64 rn, .string rs, .slice ra rl rc] 31)
           have C := Cell4.new ((((((w3.setCell ⟨w2.heap.size, 0, none⟩ (.int .i64 rk)).setCell ⟨w2.heap.size, 1, none⟩ (.int .i64 rn)).setCell ⟨w2.heap.size, 2, none⟩ (.string rs)).setCell ⟨w2.heap.size, 3, none⟩ (.slice ra rl rc)).setCell ⟨rb, 2, none⟩ (.int .i64 er)).setCell ⟨rb, 1, none⟩ (.int .i64 ((c : Int) + kk))) (.int .i64 rk) (.int .i64 rn) (.string rs) (.slice ra rl rc) 31
           rw [hsz] at C
           refine ⟨[tr], s', some ⟨w3.heap.size, 0, none⟩, 1, rfl, ?_, Nat.le_refl _, HA.out _ _ _ _ HQ.out.1 (by rw [if_neg (by decide), if_pos rfl]; exact g1.bind (After.pure _ _)), g2.alloc _, ?_⟩
           · exact Tre.node1 inR_zero (hT2.sub fun g hg => Nat.le_trans HQ.out.2.2.1.size (Nat.le_trans (Nat.le_succ _) hg)) (Nat.le_trans HQ.out.2.2.1.size HB3.out.size) C.c0 C.c1 C.c2 C.c3
           · exact (fr_one (fr_one hF4 _) _).alloc _)
        | (obtain ⟨tr, ho, hT⟩ := HO.out
           obtain ⟨s', g1, g2⟩ := rs_done (f := exprE) (x := tr) HR3.out HSE.out (HQ.out.2.2.2.2 (by first | trivial | rfl)) (by rw [HNL.out]; exact hkt) ho
           have hsz : ∀ (u v : Value), ((w3.setCell ⟨rb, 2, none⟩ u).setCell ⟨rb, 1, none⟩ v).heap.size = w3.heap.size := fun u v => by simp [World.setCell]
           have hT2 := (((hT.set (p := ⟨rb, 2, none⟩) (by show ¬ w2.heap.size ≤ rb; omega) (.int .i64 er)).set (p := ⟨rb, 1, none⟩) (by show ¬ w2.heap.size ≤ rb; omega) (.int .i64 ((c : Int) + kk))).alloc (.cells #[.int .i64 rk, .int .i64 rn, .string rs, .slice ra rl rc] 31)).alloc (.cells #[.int .i64 rk, .int .i64 rn, .string rs, .slice ra rl rc] 31)
           have C := Cell4.new ((((w3.setCell ⟨rb, 2, none⟩ (.int .i64 er)).setCell ⟨rb, 1, none⟩ (.int .i64 ((c : Int) + kk)))).alloc (.cells #[.int .i64 rk, .int .i64 rn, .string rs, .slice ra rl rc] 31)) (.int .i64 rk) (.int .i64 rn) (.string rs) (.slice ra rl rc) 31
           rw [size_alloc, hsz] at C
           refine ⟨[tr], s', some ⟨w3.heap.size + 1, 0, none⟩, 1, rfl, ?_, Nat.le_refl _, HA.out _ _ _ _ HQ.out.1 (by rw [if_neg (by decide), if_pos rfl]; exact g1.bind (After.pure _ _)), (g2.alloc _).alloc _, ?_⟩
           · exact Tre.node1 inR_zero (hT2.sub fun g hg => Nat.le_trans HQ.out.2.2.1.size hg) (Nat.le_trans HQ.out.2.2.1.size (Nat.le_trans HB3.out.size (Nat.le_succ _))) C.c0 C.c1 C.c2 C.c3
           · exact ((fr_one (fr_one (HQ.out.2.2.1.trans (.of_below HB3.out)) _) _).alloc _).alloc _)

    · have hct2 : ¬ t = c := fun q => hct q.symm
      go_region_with (go_at_call 15; first
        | (refine (H15.out _ w2.drew _ (HCu.out.s hct _ (Below.refl _ _).drew) HLd.out).mono ?_; rintro e w3 ⟨rk, rn, rs, ra, rl, rc, kk, er, rfl, hB3, hkk, hor⟩; have HB3 : Hid (Below w2.heap.size w2 w3) := ((Below.refl _ _).drew).trans hB3; have hkt : t + kk ≤ nl := (by rw [List.length_drop, HNL.out] at hkk; omega); have HR3 : Hid (Rsd w3 rb l s1) := HQ.out.2.1.below HB3.out hl2; obtain ⟨y0, y1, y2, y3⟩ : w3.cell? ⟨rb, 0, none⟩ = some (.slice a nl c) ∧ w3.cell? ⟨rb, 1, none⟩ = some (.int .i64 (t : Nat)) ∧ w3.cell? ⟨rb, 2, none⟩ = some (.int .i64 0) ∧ ∀ i, w3.frozen? ⟨rb, i, none⟩ = false := ⟨(cell_kept (HB3.out.block rb hl2) _).trans q1, (cell_kept (HB3.out.block rb hl2) _).trans q2, (cell_kept (HB3.out.block rb hl2) _).trans q7, HR3.out.free⟩; have hl3 := HR3.out.lt; have HO : Hid (∃ tr, ((exprE (l.drop t) = .ok (tr, (l.drop t).drop kk) ∧ er = 0) ∨ (exprE (l.drop t) = .error er ∧ er ≠ 0)) ∧ Tre w3 (fun g => w2.heap.size ≤ g) (.agg #[.int .i64 rk, .int .i64 rn, .string rs, .slice ra rl rc]) tr) := (by rcases hor with ⟨tr, g1, g2, g3⟩ | ⟨g1, g2, _, rfl, rfl, rfl, rfl, rfl, rfl⟩; exact ⟨tr, .inl ⟨g1, g2⟩, g3⟩; exact ⟨⟨0, 0, [], []⟩, .inr ⟨g1, g2⟩, Tre.leaf _ _ inR_zero inR_zero [] (by decide)⟩); clear hB3 hkk hor)
        | (refine (H15.out _ (w2.alloc (.cells #[.int .i64 0, .int .i64 0, .string ⟨#[]⟩, .slice none 0 0] 31)).drew _ (HCu.out.s hct _ ((Below.refl _ _).alloc (Nat.le_refl _) _).drew) HLd.out).mono ?_; rintro e w3 ⟨rk, rn, rs, ra, rl, rc, kk, er, rfl, hB3, hkk, hor⟩; have HB4 : Hid (Below (w2.alloc (.cells #[.int .i64 0, .int .i64 0, .string ⟨#[]⟩, .slice none 0 0] 31)).heap.size (w2.alloc (.cells #[.int .i64 0, .int .i64 0, .string ⟨#[]⟩, .slice none 0 0] 31)) w3) := ((Below.refl _ _).drew).trans hB3; have HB3 : Hid (Below w2.heap.size w2 w3) := below_new HB4.out; obtain ⟨v0, v1, v2, v3, v4⟩ := (Cell4.new w2 (.int .i64 0) (.int .i64 0) (.string ⟨#[]⟩) (.slice none 0 0) 31).below HB4.out; have HCz : Hid (Cell4 w3 w2.heap.size (.int .i64 0) (.int .i64 0) (.string ⟨#[]⟩) (.slice none 0 0)) := ⟨v0, v1, v2, v3, v4⟩; have hlv := World.block_lt_of_cell? _ _ v0; have hkt : t + kk ≤ nl := (by rw [List.length_drop, HNL.out] at hkk; omega); have HR3 : Hid (Rsd w3 rb l s1) := HQ.out.2.1.below HB3.out hl2; obtain ⟨y0, y1, y2, y3⟩ : w3.cell? ⟨rb, 0, none⟩ = some (.slice a nl c) ∧ w3.cell? ⟨rb, 1, none⟩ = some (.int .i64 (t : Nat)) ∧ w3.cell? ⟨rb, 2, none⟩ = some (.int .i64 0) ∧ ∀ i, w3.frozen? ⟨rb, i, none⟩ = false := ⟨(cell_kept (HB3.out.block rb hl2) _).trans q1, (cell_kept (HB3.out.block rb hl2) _).trans q2, (cell_kept (HB3.out.block rb hl2) _).trans q7, HR3.out.free⟩; have hl3 := HR3.out.lt; have HO : Hid (∃ tr, ((exprE (l.drop t) = .ok (tr, (l.drop t).drop kk) ∧ er = 0) ∨ (exprE (l.drop t) = .error er ∧ er ≠ 0)) ∧ Tre w3 (fun g => w2.heap.size + 1 ≤ g) (.agg #[.int .i64 rk, .int .i64 rn, .string rs, .slice ra rl rc]) tr) := (by rcases hor with ⟨tr, g1, g2, g3⟩ | ⟨g1, g2, _, rfl, rfl, rfl, rfl, rfl, rfl⟩; exact ⟨tr, .inl ⟨g1, g2⟩, g3.sub fun g hg => by have h9 : (w2.alloc (.cells #[.int .i64 0, .int .i64 0, .string ⟨#[]⟩, .slice none 0 0] 31)).drew.heap.size ≤ g := hg; rw [show (w2.alloc (.cells #[.int .i64 0, .int .i64 0, .string ⟨#[]⟩, .slice none 0 0] 31)).drew.heap.size = w2.heap.size + 1 from size_alloc _ _] at h9; exact h9⟩; exact ⟨⟨0, 0, [], []⟩, .inr ⟨g1, g2⟩, Tre.leaf _ _ inR_zero inR_zero [] (by decide)⟩); clear hB3 hkk hor))
      all_goals go_wp2
      all_goals go_ret
      all_goals first
        | (have := HCz
           obtain ⟨tr, ho, hT⟩ := HO.out
           have hR4 : Rsd ((((w3.setCell ⟨w2.heap.size, 0, none⟩ (.int .i64 rk)).setCell ⟨w2.heap.size, 1, none⟩ (.int .i64 rn)).setCell ⟨w2.heap.size, 2, none⟩ (.string rs)).setCell ⟨w2.heap.size, 3, none⟩ (.slice ra rl rc)) rb l s1 := (((HR3.out.set (p := ⟨w2.heap.size, 0, none⟩) hl2 _).set (p := ⟨w2.heap.size, 1, none⟩) hl2 _).set (p := ⟨w2.heap.size, 2, none⟩) hl2 _).set (p := ⟨w2.heap.size, 3, none⟩) hl2 _
           have hT4 : Tre ((((w3.setCell ⟨w2.heap.size, 0, none⟩ (.int .i64 rk)).setCell ⟨w2.heap.size, 1, none⟩ (.int .i64 rn)).setCell ⟨w2.heap.size, 2, none⟩ (.string rs)).setCell ⟨w2.heap.size, 3, none⟩ (.slice ra rl rc)) (fun g => w2.heap.size + 1 ≤ g) (.agg #[.int .i64 rk, .int .i64 rn, .string rs, .slice ra rl rc]) tr := (((hT.set (p := ⟨w2.heap.size, 0, none⟩) (by show ¬ w2.heap.size + 1 ≤ w2.heap.size; omega) _).set (p := ⟨w2.heap.size, 1, none⟩) (by show ¬ w2.heap.size + 1 ≤ w2.heap.size; omega) _).set (p := ⟨w2.heap.size, 2, none⟩) (by show ¬ w2.heap.size + 1 ≤ w2.heap.size; omega) _).set (p := ⟨w2.heap.size, 3, none⟩) (by show ¬ w2.heap.size + 1 ≤ w2.heap.size; omega) _
           have hF4 : Fr rb w ((((w3.setCell ⟨w2.heap.size, 0, none⟩ (.int .i64 rk)).setCell ⟨w2.heap.size, 1, none⟩ (.int .i64 rn)).setCell ⟨w2.heap.size, 2, none⟩ (.string rs)).setCell ⟨w2.heap.size, 3, none⟩ (.slice ra rl rc)) := (((((HQ.out.2.2.1.trans (.of_below HB3.out)).setCell (p := ⟨w2.heap.size, 0, none⟩) (.inr HQ.out.2.2.1.size) _).setCell (p := ⟨w2.heap.size, 1, none⟩) (.inr HQ.out.2.2.1.size) _).setCell (p := ⟨w2.heap.size, 2, none⟩) (.inr HQ.out.2.2.1.size) _).setCell (p := ⟨w2.heap.size, 3, none⟩) (.inr HQ.out.2.2.1.size) _)
           obtain ⟨s', g1, g2⟩ := rs_done (f := exprE) (x := tr) hR4 HSE.out (HQ.out.2.2.2.2 (by first | trivial | rfl)) (by rw [HNL.out]; exact hkt) ho
           have hsz : ((((((w3.setCell ⟨w2.heap.size, 0, none⟩ (.int .i64 rk)).setCell ⟨w2.heap.size, 1, none⟩ (.int .i64 rn)).setCell ⟨w2.heap.size, 2, none⟩ (.string rs)).setCell ⟨w2.heap.size, 3, none⟩ (.slice ra rl rc)).setCell ⟨rb, 2, none⟩ (.int .i64 er)).setCell ⟨rb, 1, none⟩ (.int .i64 ((t : Int) + kk))).heap.size = w3.heap.size := by simp [World.setCell]
           have hT2 := ((hT4.set (p := ⟨rb, 2, none⟩) (by show ¬ w2.heap.size + 1 ≤ rb; omega) (.int .i64 er)).set (p := ⟨rb, 1, none⟩) (by show ¬ w2.heap.size + 1 ≤ rb; omega) (.int .i64 ((t : Int) + kk))).alloc (.cells #[.int .i64 rk, .int .i64 rn, .string rs, .slice ra rl rc] 31)
           have C := Cell4.new ((((((w3.setCell ⟨w2.heap.size, 0, none⟩ (.int .i64 rk)).setCell ⟨w2.heap.size, 1, none⟩ (.int .i64 rn)).setCell ⟨w2.heap.size, 2, none⟩ (.string rs)).setCell ⟨w2.heap.size, 3, none⟩ (.slice ra rl rc)).setCell ⟨rb, 2, none⟩ (.int .i64 er)).setCell ⟨rb, 1, none⟩ (.int .i64 ((t : Int) + kk))) (.int .i64 rk) (.int .i64 rn) (.string rs) (.slice ra rl rc) 31
           rw [hsz] at C
           refine ⟨[tr], s', some ⟨w3.heap.size, 0, none⟩, 1, rfl, ?_, Nat.le_refl _, HA.out _ _ _ _ HQ.out.1 (by rw [if_neg (by decide), if_pos rfl]; exact g1.bind (After.pure _ _)), g2.alloc _, ?_⟩
           · exact Tre.node1 inR_zero (hT2.sub fun g hg => Nat.le_trans HQ.out.2.2.1.size (Nat.le_trans (Nat.le_succ _) hg)) (Nat.le_trans HQ.out.2.2.1.size HB3.out.size) C.c0 C.c1 C.c2 C.c3
           · exact (fr_one (fr_one hF4 _) _).alloc _)
        | (obtain ⟨tr, ho, hT⟩ := HO.out
           obtain ⟨s', g1, g2⟩ := rs_done (f := exprE) (x := tr) HR3.out HSE.out (HQ.out.2.2.2.2 (by first | trivial | rfl)) (by rw [HNL.out]; exact hkt) ho
           have hsz : ∀ (u v : Value), ((w3.setCell ⟨rb, 2, none⟩ u).setCell ⟨rb, 1, none⟩ v).heap.size = w3.heap.size := fun u v => by simp [World.setCell]
           have hT2 := (((hT.set (p := ⟨rb, 2, none⟩) (by show ¬ w2.heap.size ≤ rb; omega) (.int .i64 er)).set (p := ⟨rb, 1, none⟩) (by show ¬ w2.heap.size ≤ rb; omega) (.int .i64 ((t : Int) + kk))).alloc (.cells #[.int .i64 rk, .int .i64 rn, .string rs, .slice ra rl rc] 31)).alloc (.cells #[.int .i64 rk, .int .i64 rn, .string rs, .slice ra rl rc] 31)
           have C := Cell4.new ((((w3.setCell ⟨rb, 2, none⟩ (.int .i64 er)).setCell ⟨rb, 1, none⟩ (.int .i64 ((t : Int) + kk)))).alloc (.cells #[.int .i64 rk, .int .i64 rn, .string rs, .slice ra rl rc] 31)) (.int .i64 rk) (.int .i64 rn) (.string rs) (.slice ra rl rc) 31
           rw [size_alloc, hsz] at C
           refine ⟨[tr], s', some ⟨w3.heap.size + 1, 0, none⟩, 1, rfl, ?_, Nat.le_refl _, HA.out _ _ _ _ HQ.out.1 (by rw [if_neg (by decide), if_pos rfl]; exact g1.bind (After.pure _ _)), (g2.alloc _).alloc _, ?_⟩
           · exact Tre.node1 inR_zero (hT2.sub fun g hg => Nat.le_trans HQ.out.2.2.1.size hg) (Nat.le_trans HQ.out.2.2.1.size (Nat.le_trans HB3.out.size (Nat.le_succ _))) C.c0 C.c1 C.c2 C.c3
           · exact ((fr_one (fr_one (HQ.out.2.2.1.trans (.of_below HB3.out)) _) _).alloc _).alloc _)

  · go_ret
    exact MaybeP.none (HA.out _ _ _ _ HQ.out.1 (by rw [if_neg (by omega), if_neg (by omega)]; exact after_er HSE.out rfl (by decide))) (HQ.out.2.1.fails (er := 3) (by decide)) (fr_one HQ.out.2.2.1 _)
end
section
open Go.RowKit
set_option linter.unusedVariables false

theorem list_flow {ops : Array Oper} {rest : List Oper} {o : Oper} {a : Act} {Q : Exit → Act → World → Prop} {wX : World} (hgd : o.guard = none) (s x : Operand)
    (ho : o.op = .call { callee := .builtin .append, args := #[s, x], argTypes := #[55, 55] }) {B g : Nat} {v : Value} {rk : Int} {ra : Option Addr} {rl rc : Nat} {ts : List Fl} {y : Fl}
    (hl : Gw flowR 75 2 wX B v ts) (hy : flowR wX (fun g => B ≤ g ∧ v.ownBlock ≠ some g) [.int .i64 rk, .slice ra rl rc] y) (hbase : B ≤ wX.heap.size) (hs : a.eval s = v) (hx : a.eval x = .slice (some ⟨g, 0, none⟩) 1 1) (hg : g = wX.heap.size) (hlen : ts.length ≤ 1048576)
    (h : ∀ v' w', Gw flowR 75 2 w' B v' (ts ++ [y]) → (wX.alloc (.cells #[.int .i64 rk, .slice ra rl rc] 75)).grownBy w' v.ownBlock → wpList Try.prog ops Q rest (a.put o.dst v') w') : wpList Try.prog ops Q (o :: rest) a (wX.alloc (.cells #[.int .i64 rk, .slice ra rl rc] 75)) :=
  list_gw flowR_kept 55 75 2 32 _ hgd s x ho Try.underlying55 infoF rfl (by decide) (by decide) hl rfl (by simp [Value.oneCell']) hy hbase hs hx hg hlen h
theorem list_place {ops : Array Oper} {rest : List Oper} {o : Oper} {a : Act} {Q : Exit → Act → World → Prop} {wX : World} (hgd : o.guard = none) (s x : Operand)
    (ho : o.op = .call { callee := .builtin .append, args := #[s, x], argTypes := #[22, 22] }) {B g : Nat} {v : Value} {rk rn : Int} {rs : ByteArray} {ra : Option Addr} {rl rc : Nat} {qa : Option Addr} {ql qc : Nat} {ts : List Pl} {y : Pl}
    (hl : Gw placeR 57 5 wX B v ts) (hy : placeR wX (fun g => B ≤ g ∧ v.ownBlock ≠ some g) [.int .i64 rk, .string rs, .int .i64 rn, .slice ra rl rc, .slice qa ql qc] y) (hbase : B ≤ wX.heap.size) (hs : a.eval s = v) (hx : a.eval x = .slice (some ⟨g, 0, none⟩) 1 1) (hg : g = wX.heap.size) (hlen : ts.length ≤ 1048576)
    (h : ∀ v' w', Gw placeR 57 5 w' B v' (ts ++ [y]) → (wX.alloc (.cells #[.int .i64 rk, .string rs, .int .i64 rn, .slice ra rl rc, .slice qa ql qc] 57)).grownBy w' v.ownBlock → wpList Try.prog ops Q rest (a.put o.dst v') w') : wpList Try.prog ops Q (o :: rest) a (wX.alloc (.cells #[.int .i64 rk, .string rs, .int .i64 rn, .slice ra rl rc, .slice qa ql qc] 57)) :=
  list_gw placeR_kept 22 57 5 80 _ hgd s x ho Try.underlying22 infoP rfl (by decide) (by decide) hl rfl (by simp [Value.oneCell']) hy hbase hs hx hg hlen h
structure P5d (w wr : World) (rb : Nat) (l : BB) (s : Sst) (v0 v1 v2 v3 v4 : Value) : Prop where
  fr : Fr rb w wr
  rst : Rsd wr rb l s
  r : Cell5 wr w.heap.size (.int .i64 0) (.string ⟨#[]⟩) (.int .i64 0) (.slice none 0 0) (.slice none 0 0)
  p : Cell5 wr (w.heap.size + 1) v0 v1 v2 v3 v4
theorem P5d.then {w wr w3 : World} {rb : Nat} {l : BB} {s s3 : Sst} {v0 v1 v2 v3 v4 : Value} (h : P5d w wr rb l s v0 v1 v2 v3 v4) (hl : rb < w.heap.size) (hr : Rsd w3 rb l s3) (hf : Fr rb wr w3) : P5d w w3 rb l s3 v0 v1 v2 v3 v4 := ⟨h.fr.trans hf, hr, h.r.fr hf (by omega), h.p.fr hf (by omega)⟩
theorem P5d.set {w wr : World} {rb : Nat} {l : BB} {s : Sst} {v0 v1 v2 v3 v4 : Value} (h : P5d w wr rb l s v0 v1 v2 v3 v4) (hl : rb < w.heap.size) (j : Nat) (x : Value) : P5d w (wr.setCell ⟨w.heap.size + 1, j, none⟩ x) rb l s (if j = 0 then x else v0) (if j = 1 then x else v1) (if j = 2 then x else v2) (if j = 3 then x else v3) (if j = 4 then x else v4) :=
  ⟨h.fr.setCell (p := ⟨w.heap.size + 1, j, none⟩) (.inr (Nat.le_succ _)) _, h.rst.set (p := ⟨w.heap.size + 1, j, none⟩) (by show rb < w.heap.size + 1; omega) _, h.r.far (by show w.heap.size ≠ w.heap.size + 1; omega) _, h.p.put j x⟩
/-- What lies where while the flows are read. -/
structure Pwd (w wr : World) (rb B : Nat) (l : BB) (s : Sst) (k str n : Value) (ar : List Tr) (aa : Option Addr) (ca : Nat) (kv : Value) (ts : List Fl) : Prop where
  five : P5d w wr rb l s k str n (.slice aa ar.length ca) kv
  lo : w.heap.size + 2 ≤ B
  hi : B ≤ wr.heap.size
  arg : ExsV wr (fun g => w.heap.size + 2 ≤ g ∧ g < B) (.slice aa ar.length ca) ar
  kin : Gw flowR 75 2 wr B kv ts
theorem Pwd.then {w wr w3 : World} {rb B : Nat} {l : BB} {s s3 : Sst} {k str n kv : Value} {ar : List Tr} {aa : Option Addr} {ca : Nat} {ts : List Fl} (h : Pwd w wr rb B l s k str n ar aa ca kv ts) (hl : rb < w.heap.size) (hr : Rsd w3 rb l s3) (hf : Fr rb wr w3) : Pwd w w3 rb B l s3 k str n ar aa ca kv ts :=
  have h2 := h.lo
  ⟨h.five.then hl hr hf, h.lo, Nat.le_trans h.hi hf.size, h.arg.kept (kept_fr hf fun g hg => ⟨by omega, hg⟩), h.kin.fr flowR_kept hf (by omega)⟩
theorem Pwd.drew {w wr : World} {rb B : Nat} {l : BB} {s : Sst} {k str n kv : Value} {ar : List Tr} {aa : Option Addr} {ca : Nat} {ts : List Fl} (h : Pwd w wr rb B l s k str n ar aa ca kv ts) (hl : rb < w.heap.size) : Pwd w wr.drew rb B l s k str n ar aa ca kv ts :=
  h.then hl (h.five.rst.kept fun _ _ => rfl) (.of_below (Below.drew (Below.refl _ _)))
theorem Pwd.next {w w3 w5 : World} {rb B : Nat} {l : BB} {s : Sst} {k str n kv v5 : Value} {ar : List Tr} {aa : Option Addr} {ca : Nat} {ts ts' : List Fl} {o : Obj} (h : Pwd w w3 rb B l s k str n ar aa ca kv ts) (hl : rb < w.heap.size) (h5 : Gw flowR 75 2 w5 B v5 ts') (hg : (w3.alloc o).grownBy w5 kv.ownBlock) :
    Cell5 w5 (w.heap.size + 1) k str n (.slice aa ar.length ca) kv ∧ Pwd w (w5.setCell ⟨w.heap.size + 1, 4, none⟩ v5) rb B l s k str n ar aa ca v5 ts' := by
  have hs := h.hi
  have h2 := h.lo
  have hB : Below B w3 w5 := ((Below.refl _ _).alloc hs _).grown hg (Nat.le_trans hs (le_alloc _ _)) h.kin.own
  have h51 : P5d w w5 rb l s k str n (.slice aa ar.length ca) kv := ⟨⟨hB.os.trans h.five.fr.os, hB.tape.trans h.five.fr.tape, hB.output.trans h.five.fr.output, Nat.le_trans h.five.fr.size hB.size, fun q hq hne => (hB.block q (by omega)).trans (h.five.fr.block q hq hne)⟩, h.five.rst.below hB (by omega), h.five.r.kept (hB.block _ (by omega)), h.five.p.kept (hB.block _ (by omega))⟩
  refine ⟨h51.p, h51.set hl 4 v5, h.lo, ?_, ?_, h5.set flowR_kept (by show w.heap.size + 1 < B; omega) _⟩
  · show B ≤ (w5.setCell _ _).heap.size
    simp [World.setCell]; exact Nat.le_trans hs hB.size
  · exact h.arg.kept fun g hg2 hlt => ⟨(Below.heap_setCell _ _ _ _ (by show g ≠ w.heap.size + 1; omega)).trans (hB.block g hg2.2), hg2⟩
theorem Pwd.out {w wr : World} {rb B : Nat} {l : BB} {s : Sst} {k n : Int} {nm : Bs} {kv : Value} {ar : List Tr} {aa : Option Addr} {ca : Nat} {ts : List Fl} (h : Pwd w wr rb B l s (.int .i64 k) (.string (ba nm)) (.int .i64 n) ar aa ca kv ts) {ao : Option Addr} {co : Nat} (hv : kv = .slice ao ts.length co) (hk : InR k) (hn : InR n) (hm : nm.length ≤ 9223372036854775807) (ht : ts.length ≤ 16) : PlV wr (fun g => w.heap.size + 2 ≤ g) ⟨k, nm, n, ar, ts⟩ aa ca ao co :=
  ⟨hk, hn, hm, h.arg.kept (kept_sub fun g hg => hg.1), by
    have := h.kin.flows (by omega)
    rw [hv] at this
    exact this.kept (kept_sub fun g hg => Nat.le_trans h.lo hg)⟩
theorem after_any {α : Type} {f : Rds α} {s s' : Sst} {x y : α} (h : After f s x s') (he : s'.err ≠ 0) : After f s y s' := by
  unfold After at *
  by_cases h0 : s.err ≠ 0
  · rw [if_pos h0] at h ⊢; exact h
  · rw [if_neg h0] at h ⊢
    cases hf : f s.rest with
    | error e => rw [hf] at h; exact h
    | ok p => rw [hf] at h; obtain ⟨a, r⟩ := p; obtain ⟨_, rfl⟩ := h; exact absurd rfl he
theorem many_stay {α : Type} {f : Rds α} {s s' : Sst} {i : Nat} {os : List α} (h : After (manyE f i) s os s') (he : s'.err ≠ 0) : ∀ N, i ≤ N → ∀ os', After (manyE f N) s os' s'
  | N, hN, os' => by
    by_cases hi : i = N
    · subst hi; exact after_any h he
    · obtain ⟨M, rfl⟩ : ∃ M, N = M + 1 := ⟨N - 1, by omega⟩
      exact (many_stay h he M (by omega) os).bind (after_stay he)
def PlacePd (rb : Nat) (l : BB) (s : Sst) (w : World) (e : Ending) (w' : World) : Prop := ∃ p s' k str n a ln c qa ql qc, e = .returned (.agg #[.int .i64 k, .string str, .int .i64 n, .slice a ln c, .slice qa ql qc]) ∧ placeR w' (fun g => w.heap.size ≤ g) [.int .i64 k, .string str, .int .i64 n, .slice a ln c, .slice qa ql qc] p ∧ After placeE s p s' ∧ Rsd w' rb l s' ∧ Fr rb w w'
theorem five_rsd {w : World} {rb M o : Nat} {l : BB} {s : Sst} {u0 u1 u2 u3 u4 : Value} (h : Rsd w rb l s) (hM : rb < M) : Rsd (((((w.setCell ⟨M, o, none⟩ u0).setCell ⟨M, o + 1, none⟩ u1).setCell ⟨M, o + 2, none⟩ u2).setCell ⟨M, o + 3, none⟩ u3).setCell ⟨M, o + 4, none⟩ u4) rb l s := h.kept fun k hk => five_other (by omega)
set_option maxRecDepth 100000 in
set_option maxHeartbeats 3000000 in
theorem rplace_any (rb : Nat) (l : BB) (s : Sst) (w : World) (hl : l.length ≤ 3000) (hR : Rsd w rb l s) : Calls Try.prog 51 #[.pointer (some ⟨rb, 0, none⟩)] w (PlacePd rb l s w) := by
  have hlt := hR.lt
  have HB : Hid (∀ o o2, Calls Try.prog 83 #[.pointer (some ⟨rb, 0, none⟩)] ((w.alloc o).alloc o2) fun e w' => ∃ (x : Nat) (s' : Sst), (e = .returned (.int .i64 x) ∧ x ≤ 255) ∧ After byteE s x s' ∧ Rsd w' rb l s' ∧ Fr rb ((w.alloc o).alloc o2) w') := fun o o2 => One_any rb l s _ hl ((hR.alloc o).alloc o2)
  have HX : Hid (∀ s1 w1, Rsd w1 rb l s1 → Calls Try.prog 49 #[.pointer (some ⟨rb, 0, none⟩)] w1 fun e w' => ∃ (x : BB) (s' : Sst), e = .returned (.string (ba (bn x))) ∧ x.length ≤ 9223372036854775807 ∧ After textE s1 x s' ∧ Rsd w' rb l s' ∧ Fr rb w1 w') := fun s1 w1 q => Text_any rb l s1 w1 hl q
  have HN9 : Hid (∀ s1 w1, Rsd w1 rb l s1 → Calls Try.prog 50 #[.pointer (some ⟨rb, 0, none⟩), .int .u64 9] w1 (UintP 9 rb l s1 w1)) := fun s1 w1 q => Uint_any rb l s1 w1 9 hl (by decide) q
  have HN16 : Hid (∀ s1 w1, Rsd w1 rb l s1 → Calls Try.prog 50 #[.pointer (some ⟨rb, 0, none⟩), .int .u64 16] w1 (UintP 16 rb l s1 w1)) := fun s1 w1 q => Uint_any rb l s1 w1 16 hl (by decide) q
  have HN4 : Hid (∀ s1 w1, Rsd w1 rb l s1 → Calls Try.prog 50 #[.pointer (some ⟨rb, 0, none⟩), .int .u64 4096] w1 (UintP 4096 rb l s1 w1)) := fun s1 w1 q => Uint_any rb l s1 w1 4096 hl (by decide) q
  have HT : Hid (∀ s1 w1, Rsd w1 rb l s1 → Calls Try.prog 84 #[.pointer (some ⟨rb, 0, none⟩)] w1 (MaybeP rb l s1 w1)) := fun s1 w1 q => Maybe_any rb l s1 w1 hl q
  have H0 : Hid (P5d w ((w.alloc (.cells #[.int .i64 0, .string ⟨#[]⟩, .int .i64 0, .slice none 0 0, .slice none 0 0] 57)).alloc (.cells #[.int .i64 0, .string ⟨#[]⟩, .int .i64 0, .slice none 0 0, .slice none 0 0] 57)) rb l s (.int .i64 0) (.string ⟨#[]⟩) (.int .i64 0) (.slice none 0 0) (.slice none 0 0)) := ⟨((Fr.refl _ _).alloc _).alloc _, (hR.alloc _).alloc _, (Cell5.new w _ _ _ _ _ 57).alloc _, Cell5.second w _ _ _ _ _ _ 57⟩
  clear hR hl
  go_enter Try.func51, Try.ntmps51
  go_wp2_with (first
    | (go_at_call 50; have := H4; refine (HN16.out _ _ H4.out.1.rst).mono ?_; rintro e w6 ⟨N, s5, ⟨rfl, hN⟩, qa, q1, q2⟩; have H5 : Hid (P5d w w6 rb l s5 (.int .i64 m) (.string (ba (bn st))) (.int .i64 (nn : Nat)) (.slice ta ts.length tc) (.slice none 0 0) ∧ ExsV w6 (fun g => w.heap.size + 2 ≤ g ∧ g < w6.heap.size) (.slice ta ts.length tc) ts ∧ st.length ≤ 9223372036854775807 ∧ After textE s1 st s2 ∧ After (uintE 9) s2 nn s3 ∧ After maybeE s3 ts s4 ∧ After (uintE 16) s4 N s5) := ⟨H4.out.1.then hlt q1 q2, (H4.out.2.1.kept (kept_fr q2 fun g hg => ⟨by omega, hg⟩)).kept (fun g hg hl => ⟨rfl, hg, hl⟩), H4.out.2.2.1, H4.out.2.2.2.1, H4.out.2.2.2.2.1, H4.out.2.2.2.2.2, qa⟩; clear qa q1 q2 H4)
    | (go_at_call 84; have := H3; refine (HT.out _ _ H3.out.1.rst).mono ?_; rintro e w5 ⟨ts, s4, ta, tc, rfl, qx, ql, qa, q1, q2⟩; have h4 := H3.out.1.then hlt q1 q2; have H4 : Hid (P5d w (w5.setCell ⟨w.heap.size + 1, 3, none⟩ (.slice ta ts.length tc)) rb l s4 (.int .i64 m) (.string (ba (bn st))) (.int .i64 (nn : Nat)) (.slice ta ts.length tc) (.slice none 0 0) ∧ ExsV (w5.setCell ⟨w.heap.size + 1, 3, none⟩ (.slice ta ts.length tc)) (fun g => w.heap.size + 2 ≤ g) (.slice ta ts.length tc) ts ∧ st.length ≤ 9223372036854775807 ∧ After textE s1 st s2 ∧ After (uintE 9) s2 nn s3 ∧ After maybeE s3 ts s4) := ⟨h4.set hlt 3 _, (qx.kept (kept_sub fun g hg => Nat.le_trans H3.out.1.p.lt hg)).kept (fun g hg _ => ⟨Below.heap_setCell _ _ _ _ (Nat.ne_of_gt hg), hg⟩), H3.out.2.1, H3.out.2.2.1, H3.out.2.2.2, qa⟩; obtain ⟨p0, p1, p2, p3, p4, p5⟩ := h4.p; have hlp := World.block_lt_of_cell? _ _ p0; clear qx ql qa q1 q2 h4 H3)
    | (go_at_call 50; have := H2; refine (HN9.out _ _ H2.out.1.rst).mono ?_; rintro e w4 ⟨nn, s3, ⟨rfl, hnn⟩, qa, q1, q2⟩; have h3 := H2.out.1.then hlt q1 q2; have H3 : Hid (P5d w (w4.setCell ⟨w.heap.size + 1, 2, none⟩ (.int .i64 (nn : Nat))) rb l s3 (.int .i64 m) (.string (ba (bn st))) (.int .i64 (nn : Nat)) (.slice none 0 0) (.slice none 0 0) ∧ st.length ≤ 9223372036854775807 ∧ After textE s1 st s2 ∧ After (uintE 9) s2 nn s3) := ⟨h3.set hlt 2 _, H2.out.2.1, H2.out.2.2, qa⟩; obtain ⟨p0, p1, p2, p3, p4, p5⟩ := h3.p; have hlp := World.block_lt_of_cell? _ _ p0; clear qa q1 q2 h3 H2)
    | (go_at_call 49; have := H1; refine (HX.out _ _ H1.out.1.rst).mono ?_; rintro e w3 ⟨st, s2, rfl, hst, qa, q1, q2⟩; have h2 := H1.out.1.then hlt q1 q2; have H2 : Hid (P5d w (w3.setCell ⟨w.heap.size + 1, 1, none⟩ (.string (ba (bn st)))) rb l s2 (.int .i64 m) (.string (ba (bn st))) (.int .i64 0) (.slice none 0 0) (.slice none 0 0) ∧ st.length ≤ 9223372036854775807 ∧ After textE s1 st s2) := ⟨h2.set hlt 1 _, hst, qa⟩; have HA0 : Hid (After byteE s m s1 ∧ m ≤ 255) := H1.out.2; obtain ⟨p0, p1, p2, p3, p4, p5⟩ := h2.p; have hlp := World.block_lt_of_cell? _ _ p0; clear qa q1 q2 h2 H1 hst)
    | (go_at_call 83; refine (HB.out _ _).mono ?_; rintro e w2 ⟨m, s1, ⟨rfl, hm⟩, qa, q1, q2⟩; have h1 := H0.out.then hlt q1 q2; have H1 : Hid (P5d w (w2.setCell ⟨w.heap.size + 1, 0, none⟩ (.int .i64 m)) rb l s1 (.int .i64 m) (.string ⟨#[]⟩) (.int .i64 0) (.slice none 0 0) (.slice none 0 0) ∧ After byteE s m s1 ∧ m ≤ 255) := ⟨h1.set hlt 0 _, qa, hm⟩; obtain ⟨p0, p1, p2, p3, p4, p5⟩ := h1.p; have hlp := World.block_lt_of_cell? _ _ p0; clear qa q1 q2 h1))
  have HKi : Hid (InR m) := ⟨by have := HA0.out.2; omega, by have := HA0.out.2; omega⟩
  have HB0 : Hid (Pwd w w6 rb w6.heap.size l s5 (.int .i64 m) (.string (ba (bn st))) (.int .i64 (nn : Nat)) ts ta tc (.slice none 0 0) []) := ⟨H5.out.1, H5.out.1.p.lt, Nat.le_refl _, H5.out.2.1, Gw.nil _ _ _ _ _⟩
  have HAf0 : Hid (∀ o s', After (manyE flowE N) s5 o s' → After placeE s ⟨m, bn st, (nn : Nat), ts, o⟩ s') := fun o s' q => HA0.out.1.bind (H5.out.2.2.2.1.bind (H5.out.2.2.2.2.1.bind (H5.out.2.2.2.2.2.1.bind (H5.out.2.2.2.2.2.2.bind (q.bind (After.pure _ _))))))
  have HSt : Hid ((bn st).length ≤ 9223372036854775807) := by show _ ≤ _; rw [bn_len]; exact H5.out.2.2.1
  clear H5 p0 p1 p2 p3 p4 p5 hlp HA0
  have HPO : Hid (∀ wr rb B s' kv os, Pwd w wr rb B l s' (.int .i64 m) (.string (ba (bn st))) (.int .i64 (nn : Nat)) ts ta tc kv os → ∀ ao co, kv = .slice ao os.length co → os.length ≤ 16 → PlV wr (fun g => w.heap.size + 2 ≤ g) ⟨m, bn st, (nn : Nat), ts, os⟩ ta tc ao co) := fun wr rb B s' kv os q ao co hv ho => q.out hv HKi.out ⟨by omega, by omega⟩ HSt.out ho
  generalize w6.heap.size = B at *
  generalize hSt : ba (bn st) = sv at *
  generalize htl : ts.length = tl at *
  go_loopw [5] (fun v wr => ∃ (i : Nat), i ≤ N ∧ v = .int .i64 i ∧ Hid (∃ kv os s', Pwd w wr rb B l s' (.int .i64 m) (.string sv) (.int .i64 (nn : Nat)) ts ta tc kv os ∧ os.length = i ∧ After (manyE flowE i) s5 os s')) (fun v _ => N - (intOf v).toNat)
  case atStart => exact ⟨0, Nat.zero_le _, rfl, _, [], s5, HB0.out, rfl, After.pure _ _⟩
  case round =>
    obtain ⟨i, hi2, rfl, HR0⟩ := hrel
    obtain ⟨kv, os, s', hR, hol, hAf⟩ := HR0.out
    have HR : Hid (Pwd w wr rb B l s' (.int .i64 m) (.string sv) (.int .i64 (nn : Nat)) ts ta tc kv os) := hR
    have HTl : Hid (os.length = i) := hol
    have HAf : Hid (After (manyE flowE i) s5 os s') := hAf
    clear hR hol hAf HR0 HB0
    obtain ⟨ka, kc, rfl⟩ := HR.out.kin.form
    obtain ⟨z0, z1, z2, z3, z4, z5⟩ := HR.out.five.r
    obtain ⟨x0, x1, x2, x3, x4, x5⟩ := HR.out.five.p
    have hlz := World.block_lt_of_cell? _ _ z0
    have hlx := World.block_lt_of_cell? _ _ x0
    rw [HTl.out] at x4
    rw [htl] at x3
    have q7 := HR.out.five.rst.err
    have hlr := HR.out.five.rst.lt
    by_cases hgo : i < N ∧ s'.err = 0
    · obtain ⟨hlt2, he0⟩ := hgo
      have HLn : Hid (os.length ≤ 1048576) := by show _ ≤ _; rw [HTl.out]; omega
      rw [he0] at q7
      have HE0 : Hid (s'.err = 0) := he0
      rw [HTl.out] at HR
      have HW : Hid (∀ w5 s3, Rsd w5 rb l s3 → Fr rb wr w5 → Pwd w w5 rb B l s3 (.int .i64 m) (.string sv) (.int .i64 (nn : Nat)) ts ta tc (.slice ka i kc) os) := fun w5 s3 q1 q2 => HR.out.then hlt q1 q2
      have HNa : Hid (∀ o, Calls Try.prog 50 #[.pointer (some ⟨rb, 0, none⟩), .int .u64 4096] (wr.alloc o) (UintP 4096 rb l s' (wr.alloc o))) := fun o => HN4.out _ _ (HR.out.five.rst.alloc o)
      have HOff : Hid (∀ g, wr.heap.size ≤ g → B ≤ g ∧ (Value.slice ka i kc).ownBlock ≠ some g) := fun g hg => ⟨Nat.le_trans HR.out.hi hg, HR.out.kin.off hg⟩
      clear he0
      go_wp2_with (first
        | (at_builtin; have := G4; refine list_flow rfl (.tmp 42) (.tmp 44) rfl G4.out.1.kin G4.out.2.1 G4.out.1.hi rfl rfl (by simp [World.setCell]) HLn.out ?_; intro v5 w5 h5 hg5; obtain ⟨va, vc, rfl⟩ := h5.form1; have HB5 : Hid (Pwd w (w5.setCell ⟨w.heap.size + 1, 4, none⟩ (.slice va (os.length + 1) vc)) rb B l s3 (.int .i64 m) (.string sv) (.int .i64 (nn : Nat)) ts ta tc (.slice va (os.length + 1) vc) (os ++ [⟨(x : Nat), fs⟩])) := (G4.out.1.next hlt h5 hg5).2; obtain ⟨t0, t1, t2, t3, t4, t5⟩ := (G4.out.1.next hlt h5 hg5).1; have hls := World.block_lt_of_cell? _ _ t0; clear h5 hg5)
        | (go_at_call 84; have := G2; refine (HT.out _ _ G2.out.1).mono ?_; rintro e w4 ⟨fs, s3, fa, fc, rfl, qx, ql, qa, q1, q2⟩; have G3 : Hid (Rsd w4 rb l s3 ∧ Fr rb wr w4 ∧ Cell2 w4 wr.heap.size (.int .i64 (x : Nat)) (.slice none 0 0)) := ⟨q1, G2.out.2.1.trans q2, G2.out.2.2.1.fr q2 (Nat.ne_of_gt hlr)⟩; obtain ⟨f0, f1, f2⟩ := G3.out.2.2; have hlf := World.block_lt_of_cell? _ _ f0; obtain ⟨p0, p1, p2, p3, p4, p5⟩ := (HW.out _ _ G3.out.1 G3.out.2.1).five.p; have hlp := World.block_lt_of_cell? _ _ p0; have hR4 : Rsd (w4.setCell ⟨wr.heap.size, 1, none⟩ (.slice fa fs.length fc)) rb l s3 := q1.set (p := ⟨wr.heap.size, 1, none⟩) hlr _; have hF4 : Fr rb wr (w4.setCell ⟨wr.heap.size, 1, none⟩ (.slice fa fs.length fc)) := G3.out.2.1.setCell (p := ⟨wr.heap.size, 1, none⟩) (.inr (Nat.le_refl _)) _; have hE4 : ExsV (w4.setCell ⟨wr.heap.size, 1, none⟩ (.slice fa fs.length fc)) (fun g => wr.heap.size + 1 ≤ g) (.slice fa fs.length fc) fs := (qx.kept (kept_sub fun g hg => Nat.le_trans G2.out.2.2.1.lt hg)).kept (fun g hg _ => ⟨Below.heap_setCell _ _ _ _ (Nat.ne_of_gt hg), hg⟩); have G4 : Hid (Pwd w (w4.setCell ⟨wr.heap.size, 1, none⟩ (.slice fa fs.length fc)) rb B l s3 (.int .i64 m) (.string sv) (.int .i64 (nn : Nat)) ts ta tc (.slice ka i kc) os ∧ flowR (w4.setCell ⟨wr.heap.size, 1, none⟩ (.slice fa fs.length fc)) (fun g => B ≤ g ∧ (Value.slice ka i kc).ownBlock ≠ some g) [.int .i64 (x : Nat), .slice fa fs.length fc] ⟨(x : Nat), fs⟩ ∧ After flowE s' ⟨(x : Nat), fs⟩ s3) := ⟨HW.out _ _ hR4 hF4, ⟨fa, fc, rfl, hE4.kept (kept_sub fun g hg => HOff.out g (Nat.le_trans (Nat.le_succ _) hg)), ⟨by show _ ≤ ((x : Nat) : Int); omega, by show ((x : Nat) : Int) ≤ _; omega⟩⟩, G2.out.2.2.2.bind (qa.bind (After.pure _ _))⟩; clear qx ql qa q1 q2 hR4 hF4 hE4 G2; generalize hfl : fs.length = fl at *; have HFl : Hid (fs.length = fl) := hfl; clear hfl)
        | (go_at_call 50; refine (HNa.out _).mono ?_; rintro e w2 ⟨x, s2', ⟨rfl, hx⟩, qa, q1, q2⟩; have hc2 : Cell2 w2 wr.heap.size (.int .i64 0) (.slice none 0 0) := (Cell2.new wr _ _ 75).fr q2 (Nat.ne_of_gt hlr); obtain ⟨f0, f1, f2⟩ := hc2; have hlf := World.block_lt_of_cell? _ _ f0; have G2 : Hid (Rsd (w2.setCell ⟨wr.heap.size, 0, none⟩ (.int .i64 (x : Nat))) rb l s2' ∧ Fr rb wr (w2.setCell ⟨wr.heap.size, 0, none⟩ (.int .i64 (x : Nat))) ∧ Cell2 (w2.setCell ⟨wr.heap.size, 0, none⟩ (.int .i64 (x : Nat))) wr.heap.size (.int .i64 (x : Nat)) (.slice none 0 0) ∧ After (uintE 4096) s' x s2') := ⟨q1.set (p := ⟨wr.heap.size, 0, none⟩) hlr _, (((Fr.refl _ _).alloc _).trans q2).setCell (p := ⟨wr.heap.size, 0, none⟩) (.inr (Nat.le_refl _)) _, Cell2.put ⟨f0, f1, f2⟩ 0 _, qa⟩; clear qa q1 q2))
      go_roundw
      case rel => exact ⟨i + 1, by omega, by go_num, _, _, _, HB5.out, by rw [List.length_append, HTl.out]; rfl, HAf.out.bind (G4.out.2.2.bind (After.pure _ _))⟩
      case measure => simp [intOf]; omega
    · have HF : Hid (PlV wr (fun g => w.heap.size + 2 ≤ g) ⟨m, bn st, (nn : Nat), ts, os⟩ ta tc ka kc) := HPO.out _ _ _ _ _ _ HR.out _ _ rfl (by rw [HTl.out]; omega)
      have HA3 : Hid (After placeE s ⟨m, bn st, (nn : Nat), ts, os⟩ s') := by
        by_cases he : s'.err = 0
        · have hi : i = N := by omega
          subst hi
          exact HAf0.out _ _ HAf.out
        · exact HAf0.out _ _ (many_stay HAf.out he N hi2 os)
      rw [HTl.out] at HR
      clear HAf HPO
      generalize hse : s'.err = er at *
      have hor : ¬ i < N ∨ (i < N ∧ ¬ er = 0) := by omega
      clear hse hgo
      rcases hor with hno | ⟨hno, hez⟩
      · go_wp2_with fail
        refine bodyPost_ret (v := .agg #[.int .i64 m, .string sv, .int .i64 (nn : Nat), .slice ta tl tc, .slice ka i kc]) (by simp [results, Try.results51, go_sem, z0, z1, z2, z3, z4]) rfl ⟨_, _, _, _, _, _, _, _, _, _, _, rfl, ⟨ta, tc, ka, kc, by rw [← htl, ← hSt, ← HTl.out], ?_⟩, HA3.out, five_rsd (o := 0) HR.out.five.rst hlt, five_fr (o := 0) HR.out.five.fr (Nat.le_refl _)⟩
        exact HF.out.kept fun g hg _ => ⟨five_other (M := w.heap.size) (o := 0) (by omega), by omega⟩
      · have hez2 : ¬ (er : Int) = 0 := by omega
        go_wp2_with fail
        refine bodyPost_ret (v := .agg #[.int .i64 m, .string sv, .int .i64 (nn : Nat), .slice ta tl tc, .slice ka i kc]) (by simp [results, Try.results51, go_sem, z0, z1, z2, z3, z4]) rfl ⟨_, _, _, _, _, _, _, _, _, _, _, rfl, ⟨ta, tc, ka, kc, by rw [← htl, ← hSt, ← HTl.out], ?_⟩, HA3.out, five_rsd (o := 0) HR.out.five.rst hlt, five_fr (o := 0) HR.out.five.fr (Nat.le_refl _)⟩
        exact HF.out.kept fun g hg _ => ⟨five_other (M := w.heap.size) (o := 0) (by omega), by omega⟩
end
section
open Go.RowKit
set_option linter.unusedVariables false

/-- What lies where while the document's Read reads the places. -/
structure Dr (w wr : World) (l : BB) (s : Sst) (str kv : Value) (ts : List Pl) : Prop where
  bel : Below w.heap.size w wr
  rst : Rsd wr (w.heap.size + 1) l s
  r : Cell2 wr w.heap.size (.string ⟨#[]⟩) (.slice none 0 0)
  d : Cell2 wr (w.heap.size + 2) str kv
  kin : Gw placeR 57 5 wr (w.heap.size + 3) kv ts
theorem Dr.hi {w wr : World} {l : BB} {s : Sst} {str kv : Value} {ts : List Pl} (h : Dr w wr l s str kv ts) : w.heap.size + 3 ≤ wr.heap.size := h.d.lt
theorem Dr.then {w wr w3 : World} {l : BB} {s s3 : Sst} {str kv : Value} {ts : List Pl} (h : Dr w wr l s str kv ts) (hr : Rsd w3 (w.heap.size + 1) l s3) (hf : Fr (w.heap.size + 1) wr w3) : Dr w w3 l s3 str kv ts :=
  ⟨h.bel.trans (hf.below (Nat.le_succ _) h.bel.size), hr, h.r.fr hf (by omega), h.d.fr hf (by omega), h.kin.fr placeR_kept hf (by omega)⟩
theorem Dr.set0 {w wr : World} {l : BB} {s : Sst} {str kv : Value} {ts : List Pl} (h : Dr w wr l s str kv ts) (x : Value) : Dr w (wr.setCell ⟨w.heap.size + 2, 0, none⟩ x) l s x kv ts :=
  ⟨h.bel.setCell (p := ⟨w.heap.size + 2, 0, none⟩) (by show w.heap.size ≤ w.heap.size + 2; omega) _, h.rst.set (p := ⟨w.heap.size + 2, 0, none⟩) (by show w.heap.size + 1 < w.heap.size + 2; omega) _, h.r.far (by show w.heap.size ≠ w.heap.size + 2; omega) _, h.d.put 0 x, h.kin.set placeR_kept (by show w.heap.size + 2 < w.heap.size + 3; omega) _⟩
theorem Dr.next {w w3 w5 : World} {l : BB} {s : Sst} {str kv v5 : Value} {ts ts' : List Pl} {o : Obj} (h : Dr w w3 l s str kv ts) (h5 : Gw placeR 57 5 w5 (w.heap.size + 3) v5 ts') (hg : (w3.alloc o).grownBy w5 kv.ownBlock) :
    Cell2 w5 (w.heap.size + 2) str kv ∧ Dr w (w5.setCell ⟨w.heap.size + 2, 1, none⟩ v5) l s str v5 ts' := by
  have hs := h.hi
  have hB : Below (w.heap.size + 3) w3 w5 := ((Below.refl _ _).alloc hs _).grown hg (Nat.le_trans hs (le_alloc _ _)) h.kin.own
  have hd : Cell2 w5 (w.heap.size + 2) str kv := h.d.kept (hB.block _ (by omega))
  refine ⟨hd, ?_, (h.rst.below hB (by omega)).set (p := ⟨w.heap.size + 2, 1, none⟩) (by show w.heap.size + 1 < w.heap.size + 2; omega) _, (h.r.kept (hB.block _ (by omega))).far (by show w.heap.size ≠ w.heap.size + 2; omega) _, hd.put 1 _, h5.set placeR_kept (by show w.heap.size + 2 < w.heap.size + 3; omega) _⟩
  exact (h.bel.trans (hB.mono (by omega))).setCell (p := ⟨w.heap.size + 2, 1, none⟩) (by show w.heap.size ≤ w.heap.size + 2; omega) _
structure Cell3 (w : World) (b : Nat) (v0 v1 v2 : Value) : Prop where
  c0 : w.cell? ⟨b, 0, none⟩ = some v0
  c1 : w.cell? ⟨b, 1, none⟩ = some v1
  c2 : w.cell? ⟨b, 2, none⟩ = some v2
  free : ∀ i, w.frozen? ⟨b, i, none⟩ = false
theorem Cell3.fz (w : World) (cs : Array Value) (t : TypeId) (i : Nat) : (w.alloc (.cells cs t)).frozen? ⟨w.heap.size, i, none⟩ = false := by
  simp only [World.frozen?]
  rw [heap_alloc_new]
  simp
theorem Cell3.new (w : World) (v0 v1 v2 : Value) (t : TypeId) : Cell3 (w.alloc (.cells #[v0, v1, v2] t)) w.heap.size v0 v1 v2 :=
  ⟨by rw [cell_of_row _ _ _ _ t (0, 0) (heap_alloc_new w _)]; rfl, by rw [cell_of_row _ _ _ _ t (0, 0) (heap_alloc_new w _)]; rfl, by rw [cell_of_row _ _ _ _ t (0, 0) (heap_alloc_new w _)]; rfl, fun i => Cell3.fz w _ t i⟩
theorem Rsd.new {w : World} {a : Option Addr} {c : Nat} {l : BB} (h : V.ReadsV w (.slice a l.length c) l) (o : Obj) : Rsd ((w.alloc o).alloc (.cells #[.slice a l.length c, .int .i64 0, .int .i64 0] 78)) (w.heap.size + 1) l ⟨0, l⟩ := by
  have C := Cell3.new (w.alloc o) (.slice a l.length c) (.int .i64 0) (.int .i64 0) 78
  rw [size_alloc] at C
  refine ⟨⟨a, c, 0, C.c0, C.c1, h.below (((Below.refl _ _).alloc (Nat.le_refl _) _).alloc (le_alloc _ _) _), fun h0 x hx => ?_, Nat.zero_le _, fun _ => rfl⟩, C.c2, C.free, fun q => absurd rfl q⟩
  obtain ⟨b, off, rfl, hb, _⟩ := V.cells_of h (List.length_pos_iff.mpr h0)
  cases hx
  show b < _
  omega
def RReadP (l : BB) (w : World) (e : Ending) (w' : World) : Prop :=
  ∃ (str : ByteArray) (a : Option Addr) (ln c er : Nat), e = .returned (.tuple #[.agg #[.string str, .slice a ln c], .int .i64 er]) ∧ Below w.heap.size w w' ∧ ((∃ d, readE l = .ok d ∧ er = 0 ∧ str = ba d.id ∧ ln = d.places.length ∧ DfV w' (fun _ => True) d a c) ∨ (readE l = .error er ∧ er ≠ 0 ∧ str = ⟨#[]⟩ ∧ a = none ∧ ln = 0 ∧ c = 0))
theorem RReadP.bad {l : BB} {w w' : World} {er : Nat} (h : readE l = .error er) (hz : er ≠ 0) (hB : Below w.heap.size w w') : RReadP l w (.returned (.tuple #[.agg #[.string ⟨#[]⟩, .slice none 0 0], .int .i64 er])) w' :=
  ⟨⟨#[]⟩, none, 0, 0, er, rfl, hB, .inr ⟨h, hz, rfl, rfl, rfl, rfl⟩⟩
set_option maxRecDepth 100000 in
set_option maxHeartbeats 3000000 in
theorem RRead_any (v : Value) (l : BB) (w : World) (hl : l.length ≤ 3000) (h : V.ReadsV w v l) : Calls Try.prog 24 #[v] w (RReadP l w) := by
  have h' := h
  obtain ⟨a, c, rfl, _⟩ := h'
  have H0 : Hid (Dr w (((w.alloc (.cells #[.string ⟨#[]⟩, .slice none 0 0] 24)).alloc (.cells #[.slice a l.length c, .int .i64 0, .int .i64 0] 78)).alloc (.cells #[.string ⟨#[]⟩, .slice none 0 0] 24)) l ⟨0, l⟩ (.string ⟨#[]⟩) (.slice none 0 0) []) := by
    have C := Cell2.new ((w.alloc (.cells #[.string ⟨#[]⟩, .slice none 0 0] 24)).alloc (.cells #[.slice a l.length c, .int .i64 0, .int .i64 0] 78)) (.string ⟨#[]⟩) (.slice none 0 0) 24
    rw [size_alloc, size_alloc] at C
    exact ⟨(((Below.refl _ _).alloc (Nat.le_refl _) _).alloc (le_alloc _ _) _).alloc (Nat.le_trans (le_alloc _ _) (le_alloc _ _)) _, (Rsd.new h _).alloc _, ((Cell2.new w _ _ 24).alloc _).alloc _, C, Gw.nil _ _ _ _ _⟩
  have HX : Hid (Calls Try.prog 49 #[.pointer (some ⟨w.heap.size + 1, 0, none⟩)] (((w.alloc (.cells #[.string ⟨#[]⟩, .slice none 0 0] 24)).alloc (.cells #[.slice a l.length c, .int .i64 0, .int .i64 0] 78)).alloc (.cells #[.string ⟨#[]⟩, .slice none 0 0] 24)) fun e w' => ∃ (x : BB) (s' : Sst), e = .returned (.string (ba (bn x))) ∧ x.length ≤ 9223372036854775807 ∧ After textE ⟨0, l⟩ x s' ∧ Dr w w' l s' (.string ⟨#[]⟩) (.slice none 0 0) []) := by
    refine (Text_any (w.heap.size + 1) l ⟨0, l⟩ _ hl H0.out.rst).mono ?_
    rintro e w' ⟨x, s', rfl, q1, q2, q3, q4⟩
    exact ⟨x, s', rfl, q1, q2, H0.out.then q3 q4⟩
  have HN : Hid (∀ s1 w1 sv, Dr w w1 l s1 sv (.slice none 0 0) [] → Calls Try.prog 50 #[.pointer (some ⟨w.heap.size + 1, 0, none⟩), .int .u64 4096] w1 fun e w' => ∃ (x : Nat) (s' : Sst), (e = .returned (.int .i64 x) ∧ x ≤ 4096) ∧ After (uintE 4096) s1 x s' ∧ Dr w w' l s' sv (.slice none 0 0) []) := fun s1 w1 sv q => by
    refine (Uint_any (w.heap.size + 1) l s1 w1 4096 hl (by decide) q.rst).mono ?_
    rintro e w' ⟨x, s', q1, q2, q3, q4⟩
    exact ⟨x, s', q1, q2, q.then q3 q4⟩
  have HP : Hid (∀ s1 w1, Rsd w1 (w.heap.size + 1) l s1 → Calls Try.prog 51 #[.pointer (some ⟨w.heap.size + 1, 0, none⟩)] w1 (PlacePd (w.heap.size + 1) l s1 w1)) := fun s1 w1 q => rplace_any _ l s1 w1 hl q
  have HCk : Hid (∀ d ra rc w1, DfV w1 (fun _ => True) d ra rc → Calls Try.prog 12 #[.agg #[.string (ba d.id), .slice ra d.places.length rc]] w1 fun e w' => e = .returned (.int .i64 (checkD d : Nat)) ∧ Below w1.heap.size w1 w') := fun d ra rc w1 q => RDCheck_any _ d ra rc w1 q
  have HE1 : Hid (∀ d s', After defE ⟨0, l⟩ d s' → s'.err ≠ 0 → readE l = .error s'.err) := fun d s' q hz => by
    unfold After at q
    rw [if_neg (by simp)] at q
    simp only at q
    cases hd : defE l with
    | error e => rw [hd] at q; obtain ⟨_, rfl⟩ := q; unfold readE; rw [hd]
    | ok p => obtain ⟨d', r⟩ := p; rw [hd] at q; obtain ⟨_, rfl⟩ := q; exact absurd rfl hz
  have HE2 : Hid (∀ d s', After defE ⟨0, l⟩ d s' → s'.err = 0 → defE l = .ok (d, s'.rest)) := fun d s' q hz => by
    unfold After at q
    rw [if_neg (by simp)] at q
    simp only at q
    cases hd : defE l with
    | error e => rw [hd] at q; obtain ⟨h1, rfl⟩ := q; exact absurd hz h1
    | ok p => obtain ⟨d', r⟩ := p; rw [hd] at q; obtain ⟨rfl, rfl⟩ := q; rfl
  have HE3 : Hid (∀ d r, defE l = .ok (d, r) → (r ≠ [] → readE l = .error 3) ∧ (r = [] → checkD d ≠ 0 → readE l = .error (checkD d)) ∧ (r = [] → checkD d = 0 → readE l = .ok d)) := fun d r q => by
    unfold readE
    rw [q]
    refine ⟨fun h => by simp only; rw [if_pos h], fun h1 h2 => by simp only; rw [if_neg (by simp [h1]), if_pos h2], fun h1 h2 => by simp only; rw [if_neg (by simp [h1]), if_neg (by omega)]⟩
  clear h hl
  generalize hnl : l.length = nl at *
  have HNL : Hid (l.length = nl) := hnl
  clear hnl
  go_enter Try.func24, Try.ntmps24
  go_wp2_with (first
    | (go_at_call 50; have := H1; refine (HN.out _ _ _ H1.out.1).mono ?_; rintro e w3 ⟨N, s2, ⟨rfl, hN⟩, qa, q1⟩; have H2 : Hid (Dr w w3 l s2 (.string sv) (.slice none 0 0) [] ∧ After textE ⟨0, l⟩ st s1 ∧ After (uintE 4096) s1 N s2 ∧ ba (bn st) = sv ∧ st.length ≤ 9223372036854775807) := ⟨q1, H1.out.2.1, qa, H1.out.2.2⟩; clear qa q1 H1)
    | (go_at_call 49; refine HX.out.mono ?_; rintro e w2 ⟨st, s1, rfl, hst, qa, q1⟩; generalize hsv : ba (bn st) = sv at *; have H1 : Hid (Dr w (w2.setCell ⟨w.heap.size + 2, 0, none⟩ (.string sv)) l s1 (.string sv) (.slice none 0 0) [] ∧ After textE ⟨0, l⟩ st s1 ∧ ba (bn st) = sv ∧ st.length ≤ 9223372036854775807) := ⟨q1.set0 _, qa, hsv, hst⟩; obtain ⟨d0, d1, d2⟩ := q1.d; have hld := World.block_lt_of_cell? _ _ d0; clear qa q1 hsv hst))
  have HB0 : Hid (Dr w w3 l s2 (.string sv) (.slice none 0 0) []) := H2.out.1
  have HAf0 : Hid (∀ o s', After (manyE placeE N) s2 o s' → After defE ⟨0, l⟩ ⟨bn st, o⟩ s') := fun o s' q => H2.out.2.1.bind (H2.out.2.2.1.bind (q.bind (After.pure _ _)))
  have HSt : Hid (ba (bn st) = sv ∧ (bn st).length ≤ 9223372036854775807) := ⟨H2.out.2.2.2.1, by rw [bn_len]; exact H2.out.2.2.2.2⟩
  clear H2
  go_loopw [7] (fun v wr => ∃ (i : Nat), i ≤ N ∧ v = .int .i64 i ∧ Hid (∃ kv os s', Dr w wr l s' (.string sv) kv os ∧ os.length = i ∧ After (manyE placeE i) s2 os s')) (fun v _ => N - (intOf v).toNat)
  case atStart => exact ⟨0, Nat.zero_le _, rfl, _, [], s2, HB0.out, rfl, After.pure _ _⟩
  case round =>
    obtain ⟨i, hi2, rfl, HR0⟩ := hrel
    obtain ⟨kv, os, s', hR, hol, hAf⟩ := HR0.out
    have HR : Hid (Dr w wr l s' (.string sv) kv os) := hR
    have HTl : Hid (os.length = i) := hol
    have HAf : Hid (After (manyE placeE i) s2 os s') := hAf
    clear hR hol hAf HR0 HB0
    obtain ⟨ka, kc, rfl⟩ := HR.out.kin.form
    obtain ⟨z0, z1, z2⟩ := HR.out.r
    obtain ⟨x0, x1, x2⟩ := HR.out.d
    have hlz := World.block_lt_of_cell? _ _ z0
    have hlx := World.block_lt_of_cell? _ _ x0
    rw [HTl.out] at x1
    have q7 := HR.out.rst.err
    by_cases hgo : i < N ∧ s'.err = 0
    · obtain ⟨hlt2, he0⟩ := hgo
      have HLn : Hid (os.length ≤ 1048576) := by show _ ≤ _; rw [HTl.out]; omega
      rw [he0] at q7
      clear he0
      have HC : Hid (Calls Try.prog 51 #[.pointer (some ⟨w.heap.size + 1, 0, none⟩)] wr (PlacePd (w.heap.size + 1) l s' wr)) := HP.out s' wr HR.out.rst
      rw [HTl.out] at HR
      go_wp2_with (first
        | (at_builtin; have := G4; refine list_place rfl (.tmp 34) (.tmp 36) rfl G4.out.1.kin G4.out.2.1 G4.out.1.hi rfl rfl (by simp only [size_alloc]) HLn.out ?_; intro v5 w5 h5 hg5; obtain ⟨va, vc, rfl⟩ := h5.form1; have HB5 : Hid (Dr w (w5.setCell ⟨w.heap.size + 2, 1, none⟩ (.slice va (os.length + 1) vc)) l s3 (.string sv) (.slice va (os.length + 1) vc) (os ++ [y])) := (G4.out.1.next h5 hg5).2; obtain ⟨t0, t1, t2⟩ := (G4.out.1.next h5 hg5).1; have hls := World.block_lt_of_cell? _ _ t0; clear h5 hg5)
        | (go_at_call 51; refine HC.out.mono ?_; rintro e w4 ⟨y, s3, rk, rs, rn, ra, rl, rc, qa, ql, qc, rfl, hrt, hA3, hr3, hf3⟩; have h4 := HR.out.then hr3 hf3; have hoff : ∀ g, wr.heap.size ≤ g → w.heap.size + 3 ≤ g ∧ (Value.slice ka i kc).ownBlock ≠ some g := fun g hg => ⟨Nat.le_trans HR.out.hi hg, HR.out.kin.off hg⟩; have G4 : Hid (Dr w (w4.alloc (.cells #[.int .i64 rk, .string rs, .int .i64 rn, .slice ra rl rc, .slice qa ql qc] 57)) l s3 (.string sv) (.slice ka i kc) os ∧ placeR (w4.alloc (.cells #[.int .i64 rk, .string rs, .int .i64 rn, .slice ra rl rc, .slice qa ql qc] 57)) (fun g => w.heap.size + 3 ≤ g ∧ (Value.slice ka i kc).ownBlock ≠ some g) [.int .i64 rk, .string rs, .int .i64 rn, .slice ra rl rc, .slice qa ql qc] y ∧ After placeE s' y s3) := ⟨h4.then (hr3.alloc _) ((Fr.refl _ _).alloc _), placeR_kept _ _ _ _ _ _ hrt (fun g hg hlt => ⟨heap_alloc_old _ _ hlt, hoff g hg⟩), hA3⟩; obtain ⟨y0, y1, y2⟩ := h4.d; have hly := World.block_lt_of_cell? _ _ y0; clear hrt hA3 hr3 hf3 h4 hoff))
      go_roundw
      case rel => exact ⟨i + 1, by omega, by go_num, _, _, _, HB5.out, by rw [List.length_append, HTl.out]; rfl, HAf.out.bind (G4.out.2.2.bind (After.pure _ _))⟩
      case measure => simp [intOf]; omega
    · have HA3 : Hid (After defE ⟨0, l⟩ ⟨bn st, os⟩ s') := by
        by_cases he : s'.err = 0
        · have hi : i = N := by omega
          subst hi
          exact HAf0.out _ _ HAf.out
        · exact HAf0.out _ _ (many_stay HAf.out he N hi2 os)
      obtain ⟨ya, yc, t, r1, r2, r3, r4, r5, r6⟩ := HR.out.rst.cells
      have hlr := HR.out.rst.lt
      rw [HNL.out] at r5
      have HBl : Hid (Below w.heap.size w wr) := HR.out.bel
      have HCr : Hid (Cell2 wr w.heap.size (.string ⟨#[]⟩) (.slice none 0 0)) := HR.out.r
      by_cases hez : s'.err = 0
      · have hi : i = N := by omega
        have HD : Hid (defE l = .ok (⟨bn st, os⟩, l.drop t)) := by show _ = _; rw [← r6 hez]; exact HE2.out _ _ HA3.out hez
        have HDf : Hid (DfV wr (fun _ => True) ⟨bn st, os⟩ ka kc) := ⟨HSt.out.2, (HR.out.kin.places (by rw [HTl.out]; omega)).kept (kept_sub fun _ _ => True.intro)⟩
        have HDg : Hid (∀ w4, Below wr.heap.size wr w4 → DfV w4 (fun g => g < wr.heap.size ∧ (w.heap.size + 3 ≤ g)) ⟨bn st, os⟩ ka kc) := fun w4 hB => ⟨HSt.out.2, (HR.out.kin.places (by rw [HTl.out]; omega)).kept fun g hg hlt => ⟨hB.block g hlt, hlt, hg⟩⟩
        have HC12 : Hid (Calls Try.prog 12 #[.agg #[.string sv, .slice ka i kc]] wr fun e w' => e = .returned (.int .i64 (checkD ⟨bn st, os⟩ : Nat)) ∧ Below wr.heap.size wr w') := by
          have := HCk.out ⟨bn st, os⟩ ka kc wr HDf.out
          rw [HSt.out.1, HTl.out] at this
          exact this
        have HX3 := HE3.out _ _ HD.out
        have HX1 : Hid (t < nl → readE l = .error 3) := fun ht => HX3.1 (fun e0 => by have := congrArg List.length e0; rw [List.length_drop, HNL.out] at this; simp at this; omega)
        have HX2 : Hid (¬ t < nl → (checkD ⟨bn st, os⟩ ≠ 0 → readE l = .error (checkD ⟨bn st, os⟩)) ∧ (checkD ⟨bn st, os⟩ = 0 → readE l = .ok ⟨bn st, os⟩)) := fun ht => ⟨HX3.2.1 (List.drop_of_length_le (by rw [HNL.out]; omega)), HX3.2.2 (List.drop_of_length_le (by rw [HNL.out]; omega))⟩
        rw [hez] at q7
        have hck : checkD ⟨bn st, os⟩ = 0 ∨ checkD ⟨bn st, os⟩ ≠ 0 := by omega
        clear r3 r4 r6 HA3 HD HX3 HR HCk hez hgo
        generalize checkD ⟨bn st, os⟩ = ck at *
        subst hi
        by_cases ht : t < nl
        · go_wp2_with fail
          have hz4 : Cell2 _ w.heap.size (.string ⟨#[]⟩) (.slice none 0 0) := (HCr.out.put 0 (.string ⟨#[]⟩)).put 1 (.slice none 0 0)
          obtain ⟨e0, e1, _⟩ := hz4
          refine bodyPost_ret (v := .tuple #[.agg #[.string ⟨#[]⟩, .slice none 0 0], .int .i64 3]) (by simp [results, Try.results24, go_sem, e0, e1]) rfl (RReadP.bad (HX1.out ht) (by decide) ?_)
          exact below_twoC (o := 0) HBl.out (Nat.le_refl _)
        · rcases hck with rfl | hck
          · go_wp2_with (go_at_call 12; refine HC12.out.mono ?_; rintro e w4 ⟨rfl, hB4⟩; have G4 : Hid (Below w.heap.size w w4 ∧ Cell2 w4 w.heap.size (.string ⟨#[]⟩) (.slice none 0 0) ∧ Cell2 w4 (w.heap.size + 2) (.string sv) (.slice ka i kc) ∧ DfV w4 (fun g => g < wr.heap.size ∧ (w.heap.size + 3 ≤ g)) ⟨bn st, os⟩ ka kc) := ⟨HBl.out.trans (hB4.mono HBl.out.size), HCr.out.below hB4, Cell2.below ⟨x0, x1, x2⟩ hB4, HDg.out _ hB4⟩; obtain ⟨a0, a1, a2⟩ := G4.out.2.1; obtain ⟨b0, b1, b2⟩ := G4.out.2.2.1; have hla := World.block_lt_of_cell? _ _ a0; have hlb := World.block_lt_of_cell? _ _ b0; clear hB4)
            have hz4 : Cell2 _ w.heap.size (.string sv) (.slice ka i kc) := (G4.out.2.1.put 0 (.string sv)).put 1 (.slice ka i kc)
            obtain ⟨e0, e1, _⟩ := hz4
            refine bodyPost_ret (v := .tuple #[.agg #[.string sv, .slice ka i kc], .int .i64 0]) (by simp [results, Try.results24, go_sem, e0, e1]) rfl ⟨sv, ka, i, kc, 0, rfl, below_twoC (o := 0) G4.out.1 (Nat.le_refl _), .inl ⟨⟨bn st, os⟩, (HX2.out ht).2 (by first | trivial | rfl), rfl, HSt.out.1.symm, HTl.out.symm, ?_⟩⟩
            exact G4.out.2.2.2.kept fun g hg _ => ⟨two_other (M := w.heap.size) (o := 0) (by omega), True.intro⟩
          · have hck2 : ¬ (ck : Int) = 0 := by omega
            go_wp2_with (go_at_call 12; refine HC12.out.mono ?_; rintro e w4 ⟨rfl, hB4⟩; have G4 : Hid (Below w.heap.size w w4 ∧ Cell2 w4 w.heap.size (.string ⟨#[]⟩) (.slice none 0 0)) := ⟨HBl.out.trans (hB4.mono HBl.out.size), HCr.out.below hB4⟩; obtain ⟨a0, a1, a2⟩ := G4.out.2; have hla := World.block_lt_of_cell? _ _ a0; clear hB4)
            have hz4 : Cell2 _ w.heap.size (.string ⟨#[]⟩) (.slice none 0 0) := (G4.out.2.put 0 (.string ⟨#[]⟩)).put 1 (.slice none 0 0)
            obtain ⟨e0, e1, _⟩ := hz4
            refine bodyPost_ret (v := .tuple #[.agg #[.string ⟨#[]⟩, .slice none 0 0], .int .i64 ck]) (by simp [results, Try.results24, go_sem, e0, e1]) rfl (RReadP.bad ((HX2.out ht).1 hck) hck ?_)
            exact below_twoC (o := 0) G4.out.1 (Nat.le_refl _)
      · have HX1 : Hid (readE l = .error s'.err) := HE1.out _ _ HA3.out hez
        clear r3 r4 r6 HA3 HR hgo
        generalize s'.err = er at *
        have hez2 : ¬ (er : Int) = 0 := by omega
        have hor : ¬ i < N ∨ i < N := by omega
        rcases hor with hno | hno
        all_goals (
          go_wp2_with fail
          go_region
          all_goals go_wp2
          all_goals (
            have hz4 : Cell2 _ w.heap.size (.string ⟨#[]⟩) (.slice none 0 0) := (HCr.out.put 0 (.string ⟨#[]⟩)).put 1 (.slice none 0 0)
            obtain ⟨e0, e1, _⟩ := hz4
            refine bodyPost_ret (v := .tuple #[.agg #[.string ⟨#[]⟩, .slice none 0 0], .int .i64 er]) (by simp [results, Try.results24, go_sem, e0, e1]) rfl (RReadP.bad HX1.out hez ?_)
            exact (below_twoC (o := 0) HBl.out (Nat.le_refl _)).drew))
end
section
open Go.ChangeShapes Go.WideShapes Go.ChangeAt Go.RowKit
set_option linter.unusedVariables false


theorem addW (b off i : Nat) : (⟨b, off, none⟩ : Addr).add i = ⟨b, off + i, none⟩ := by unfold Addr.add; split <;> simp_all
theorem in_of_wf {n : Int} (h : (Lit.int .i64 n).wf = true) : InR n := by
  simp only [Lit.wf, IntKind.min, IntKind.max, IntKind.signed, IntKind.bits, Bool.and_eq_true, decide_eq_true_eq, if_true] at h
  constructor <;> omega
section
variable {H : Type} {enc : TypeId × Value → H} {w : World}
set_option maxRecDepth 100000 in
theorem tre_of_trod : ∀ (fuel : Nat) (cs : List Value) (x : DataW H × List MemPlace), DataW.trod enc Try.prog w 0 (fun _ => true) true fuel 31 cs = some x →
    ∃ (t : Tr) (a : Option Addr) (cap : Nat), cs = [.int .i64 t.kind, .int .i64 t.n, .string (ba t.name), .slice a t.kids.length cap] ∧ TrV w (fun _ => True) (fuel + 1) (.agg #[.int .i64 t.kind, .int .i64 t.n, .string (ba t.name), .slice a t.kids.length cap]) t := by
  intro fuel
  induction fuel using Nat.strongRecOn with
  | ind fuel ih =>
    intro cs x h
    obtain ⟨xs, n, rfl, _, hlen, hxs, hf⟩ := DataW.trod_struct Try.underlying31 h
    have hc : Try.prog.cellsOf 31 = 4 := by kernel_rfl
    have hc3 : Try.prog.cellsOf 3 = 1 := by kernel_rfl
    have hc2 : Try.prog.cellsOf 2 = 1 := by kernel_rfl
    have hc9 : Try.prog.cellsOf 9 = 1 := by kernel_rfl
    have hc22 : Try.prog.cellsOf 29 = 1 := by kernel_rfl
    rw [hc] at hlen
    obtain ⟨c0, c1, c2, c3, rfl⟩ : ∃ c0 c1 c2 c3, cs = [c0, c1, c2, c3] := by
      match cs, hlen with
      | [c0, c1, c2, c3], _ => exact ⟨c0, c1, c2, c3, rfl⟩
    obtain ⟨y0, y1, y2, y3, rfl⟩ : ∃ y0 y1 y2 y3, xs = [y0, y1, y2, y3] := by
      have hxs4 : xs.length = 4 := by rw [hxs]; rfl
      match xs, hxs4 with
      | [y0, y1, y2, y3], _ => exact ⟨y0, y1, y2, y3, rfl⟩
    have f0 : DataW.trod enc Try.prog w 0 (fun _ => true) true n 3 ((List.drop 0 [c0, c1, c2, c3]).take (Try.prog.cellsOf 3)) = some y0 := hf 0 _ rfl
    have f1 : DataW.trod enc Try.prog w 0 (fun _ => true) true n 2 ((List.drop 1 [c0, c1, c2, c3]).take (Try.prog.cellsOf 2)) = some y1 := hf 1 _ rfl
    have f2 : DataW.trod enc Try.prog w 0 (fun _ => true) true n 9 ((List.drop 2 [c0, c1, c2, c3]).take (Try.prog.cellsOf 9)) = some y2 := hf 2 _ rfl
    have f3 : DataW.trod enc Try.prog w 0 (fun _ => true) true n 29 ((List.drop 3 [c0, c1, c2, c3]).take (Try.prog.cellsOf 29)) = some y3 := hf 3 _ rfl
    rw [hc3] at f0
    rw [hc2] at f1
    rw [hc9] at f2
    rw [hc22] at f3
    obtain ⟨k, e0, _, wk⟩ := DataW.trod_int Try.underlying3 (x := y0) f0
    obtain ⟨m, e1, _, wm⟩ := DataW.trod_int Try.underlying2 (x := y1) f1
    obtain ⟨s, e2, _, ws⟩ := DataW.trod_string Try.underlying9 (x := y2) f2
    simp at e0 e1 e2
    subst e0; subst e1; subst e2
    have hk : InR k := in_of_wf wk
    have hm : InR m := in_of_wf wm
    have wsz : s.data.toList.length ≤ 9223372036854775807 := by rw [Array.length_toList]; exact ws
    rcases DataW.trod_slice Try.underlying29 (x := y3) f3 with ⟨e3, _⟩ | ⟨a, len, cap, elems, rest, m2, hm2, e3, _, _, hl, hcm, hel, hin, _⟩
    · simp at e3
      subst e3
      refine ⟨⟨k, m, s.data.toList, []⟩, none, 0, by simp [ba_of], none, 0, rfl, Nat.le_refl _, hk, hm, wsz, Nat.zero_le _, fun i hi => by simp at hi⟩
    · simp at e3
      subst e3
      rw [hc] at hin
      have each : ∀ i, i < len → ∃ tt : Tr × Option Addr × Nat, (w.cell? ((a.add (i * 4)).add 0) = some (.int .i64 tt.1.kind) ∧ w.cell? ((a.add (i * 4)).add 1) = some (.int .i64 tt.1.n) ∧ w.cell? ((a.add (i * 4)).add 2) = some (.string (ba tt.1.name)) ∧ w.cell? ((a.add (i * 4)).add 3) = some (.slice tt.2.1 tt.1.kids.length tt.2.2)) ∧ TrV w (fun _ => True) (m2 + 1) (.agg #[.int .i64 tt.1.kind, .int .i64 tt.1.n, .string (ba tt.1.name), .slice tt.2.1 tt.1.kids.length tt.2.2]) tt.1 := by
        intro i hi
        have h1 := hin i hi
        have hi2 : i < elems.length := by omega
        rw [List.getElem?_eq_getElem hi2] at h1
        cases hcs : w.cells? 0 (a.add (i * 4)) 4 with
        | none => rw [hcs] at h1; simp at h1
        | some cs' =>
          rw [hcs] at h1
          obtain ⟨t, ta, tcap, e, hT⟩ := ih m2 (by omega) cs' _ h1
          obtain ⟨_, _, hcell⟩ := World.cells?_some hcs
          rw [e] at hcell
          exact ⟨(t, ta, tcap), ⟨hcell 0 (by decide), hcell 1 (by decide), hcell 2 (by decide), hcell 3 (by decide)⟩, hT⟩
      have inh : Inhabited (Tr × Option Addr × Nat) := ⟨(zeroT, none, 0)⟩
      obtain ⟨T, hT⟩ := Go.Deep.choose_lt each
      have hkl : ((List.range len).map fun i => (T i).1).length = len := by simp
      refine ⟨⟨k, m, s.data.toList, (List.range len).map fun i => (T i).1⟩, some a, cap, by simp [ba_of], some a, cap, by simp, by show List.length _ ≤ _; rw [hkl]; exact hl, hk, hm, wsz, by show List.length _ ≤ _; rw [hkl]; unfold maxLen at hcm; omega, fun i hi => ?_⟩
      have hi' : i < len := by rw [← hkl]; exact hi
      obtain ⟨⟨h0, h1, h2, h3⟩, h4⟩ := hT i hi'
      have hg : ((List.range len).map fun i => (T i).1).getD i zeroT = (T i).1 := by
        rw [List.getD_eq_getElem?_getD, List.getElem?_map, List.getElem?_range hi']; rfl
      have hspot : a.spot = none := by
        have := World.cell?_spot (hT 0 (by omega)).1.1
        simpa [Addr.add] using this
      obtain ⟨b, o, sp⟩ := a
      simp only at hspot
      subst hspot
      rw [addW, addW] at h0 h1 h2 h3
      refine ⟨b, o, _, _, _, _, rfl, trivial, h0, h1, h2, h3, ?_⟩
      show TrV w _ (n + 1) _ (((List.range len).map fun i => (T i).1).getD i zeroT)
      rw [hg]
      exact h4.mono (by omega)
theorem tre_of_Trod {v : Value} {d : DataW H} {p : List MemPlace} (h : DataW.Trod enc Try.prog w 0 (fun _ => true) true 31 v d p) : ∃ (t : Tr) (a : Option Addr) (cap : Nat), v = .agg #[.int .i64 t.kind, .int .i64 t.n, .string (ba t.name), .slice a t.kids.length cap] ∧ Tre w (fun _ => True) (.agg #[.int .i64 t.kind, .int .i64 t.n, .string (ba t.name), .slice a t.kids.length cap]) t := by
  obtain ⟨fuel, hf⟩ := h
  obtain ⟨t, a, cap, e, hT⟩ := tre_of_trod fuel _ _ hf
  refine ⟨t, a, cap, ?_, fuel + 1, hT⟩
  cases v with
  | agg cs =>
    have : cs.toList = [.int .i64 t.kind, .int .i64 t.n, .string (ba t.name), .slice a t.kids.length cap] := e
    rw [show cs = ⟨cs.toList⟩ from rfl, this]
  | _ => have := congrArg List.length e; simp [Value.cells] at this
end
end
section
open Go.ChangeShapes Go.WideShapes Go.ChangeAt Go.RowKit
set_option linter.unusedVariables false
section
variable {H : Type} {enc : TypeId × Value → H} {w : World}
theorem getD_range {α : Type} (len : Nat) (T : Nat → α) (i : Nat) (hi : i < len) (z : α) : ((List.range len).map T).getD i z = T i := by
  rw [List.getD_eq_getElem?_getD, List.getElem?_map, List.getElem?_range hi]; rfl
set_option maxRecDepth 100000 in
theorem exs_of_trod {fuel : Nat} {c : Value} {x : DataW H × List MemPlace} (h : DataW.trod enc Try.prog w 0 (fun _ => true) true fuel 29 [c] = some x) :
    ∃ (l : List Tr) (a : Option Addr) (cap : Nat), c = .slice a l.length cap ∧ ExsV w (fun _ => True) (.slice a l.length cap) l := by
  have hc : Try.prog.cellsOf 31 = 4 := by kernel_rfl
  rcases DataW.trod_slice Try.underlying29 h with ⟨e3, _⟩ | ⟨a, len, cap, elems, rest, m2, hm2, e3, _, _, hl, hcm, hel, hin, _⟩
  · simp at e3
    subst e3
    exact ⟨[], none, 0, rfl, ExsV.nil w _⟩
  · simp at e3
    subst e3
    rw [hc] at hin
    have each : ∀ i, i < len → ∃ tt : Tr × Option Addr × Nat, (w.cell? ((a.add (i * 4)).add 0) = some (.int .i64 tt.1.kind) ∧ w.cell? ((a.add (i * 4)).add 1) = some (.int .i64 tt.1.n) ∧ w.cell? ((a.add (i * 4)).add 2) = some (.string (ba tt.1.name)) ∧ w.cell? ((a.add (i * 4)).add 3) = some (.slice tt.2.1 tt.1.kids.length tt.2.2)) ∧ TrV w (fun _ => True) (m2 + 1) (.agg #[.int .i64 tt.1.kind, .int .i64 tt.1.n, .string (ba tt.1.name), .slice tt.2.1 tt.1.kids.length tt.2.2]) tt.1 := by
      intro i hi
      have h1 := hin i hi
      have hi2 : i < elems.length := by omega
      rw [List.getElem?_eq_getElem hi2] at h1
      cases hcs : w.cells? 0 (a.add (i * 4)) 4 with
      | none => rw [hcs] at h1; simp at h1
      | some cs' =>
        rw [hcs] at h1
        obtain ⟨t, ta, tcap, e, hT⟩ := tre_of_trod m2 cs' _ h1
        obtain ⟨_, _, hcell⟩ := World.cells?_some hcs
        rw [e] at hcell
        exact ⟨(t, ta, tcap), ⟨hcell 0 (by decide), hcell 1 (by decide), hcell 2 (by decide), hcell 3 (by decide)⟩, hT⟩
    have inh : Inhabited (Tr × Option Addr × Nat) := ⟨(zeroT, none, 0)⟩
    obtain ⟨T, hT⟩ := Go.Deep.choose_lt each
    have hkl : ((List.range len).map fun i => (T i).1).length = len := by simp
    refine ⟨(List.range len).map fun i => (T i).1, some a, cap, by rw [hkl], m2 + 2, some a, cap, rfl, by show List.length _ ≤ _; rw [hkl]; exact hl, inR_zero, inR_zero, Nat.zero_le _, by show List.length _ ≤ _; rw [hkl]; unfold maxLen at hcm; omega, fun i hi => ?_⟩
    have hi' : i < len := by rw [← hkl]; exact hi
    obtain ⟨⟨h0, h1, h2, h3⟩, h4⟩ := hT i hi'
    have hg := getD_range len (fun i => (T i).1) i hi' zeroT
    have hspot : a.spot = none := by
      have := World.cell?_spot (hT 0 (by omega)).1.1
      simpa [Addr.add] using this
    obtain ⟨b, o, sp⟩ := a
    simp only at hspot
    subst hspot
    rw [addW, addW] at h0 h1 h2 h3
    refine ⟨b, o, _, _, _, _, rfl, trivial, h0, h1, h2, h3, ?_⟩
    show TrV w _ (m2 + 1) _ (((List.range len).map fun i => (T i).1).getD i zeroT)
    rw [hg]
    exact h4
set_option maxRecDepth 100000 in
theorem fl_of_trod {fuel : Nat} {cs : List Value} {x : DataW H × List MemPlace} (h : DataW.trod enc Try.prog w 0 (fun _ => true) true fuel 75 cs = some x) :
    ∃ (f : Fl) (a : Option Addr) (cap : Nat), cs = [.int .i64 f.to, .slice a f.ifs.length cap] ∧ InR f.to ∧ ExsV w (fun _ => True) (.slice a f.ifs.length cap) f.ifs := by
  obtain ⟨xs, n, rfl, _, hlen, hxs, hf⟩ := DataW.trod_struct Try.underlying75 h
  have hc : Try.prog.cellsOf 75 = 2 := by kernel_rfl
  have hc3 : Try.prog.cellsOf 3 = 1 := by kernel_rfl
  have hc29 : Try.prog.cellsOf 29 = 1 := by kernel_rfl
  rw [hc] at hlen
  obtain ⟨c0, c1, rfl⟩ : ∃ c0 c1, cs = [c0, c1] := by
    match cs, hlen with
    | [c0, c1], _ => exact ⟨c0, c1, rfl⟩
  obtain ⟨y0, y1, rfl⟩ : ∃ y0 y1, xs = [y0, y1] := by
    have hxs2 : xs.length = 2 := by rw [hxs]; rfl
    match xs, hxs2 with
    | [y0, y1], _ => exact ⟨y0, y1, rfl⟩
  have f0 : DataW.trod enc Try.prog w 0 (fun _ => true) true n 3 ((List.drop 0 [c0, c1]).take (Try.prog.cellsOf 3)) = some y0 := hf 0 _ rfl
  have f1 : DataW.trod enc Try.prog w 0 (fun _ => true) true n 29 ((List.drop 1 [c0, c1]).take (Try.prog.cellsOf 29)) = some y1 := hf 1 _ rfl
  rw [hc3] at f0
  rw [hc29] at f1
  obtain ⟨k, e0, _, wk⟩ := DataW.trod_int Try.underlying3 (x := y0) f0
  simp at e0
  subst e0
  obtain ⟨l, a, cap, e1, hE⟩ := exs_of_trod (c := c1) f1
  exact ⟨⟨k, l⟩, a, cap, by rw [e1], in_of_wf wk, hE⟩
set_option maxRecDepth 100000 in
theorem fls_of_trod {fuel : Nat} {c : Value} {x : DataW H × List MemPlace} (h : DataW.trod enc Try.prog w 0 (fun _ => true) true fuel 55 [c] = some x) :
    ∃ (l : List Fl) (a : Option Addr) (cap : Nat), c = .slice a l.length cap ∧ FlsV w (fun _ => True) (.slice a l.length cap) l := by
  have hc : Try.prog.cellsOf 75 = 2 := by kernel_rfl
  rcases DataW.trod_slice Try.underlying55 h with ⟨e3, _⟩ | ⟨a, len, cap, elems, rest, m2, hm2, e3, _, _, hl, hcm, hel, hin, _⟩
  · simp at e3
    subst e3
    exact ⟨[], none, 0, rfl, FlsV.nil w _⟩
  · simp at e3
    subst e3
    rw [hc] at hin
    have each : ∀ i, i < len → ∃ tt : Fl × Option Addr × Nat, (w.cell? ((a.add (i * 2)).add 0) = some (.int .i64 tt.1.to) ∧ w.cell? ((a.add (i * 2)).add 1) = some (.slice tt.2.1 tt.1.ifs.length tt.2.2)) ∧ InR tt.1.to ∧ ExsV w (fun _ => True) (.slice tt.2.1 tt.1.ifs.length tt.2.2) tt.1.ifs := by
      intro i hi
      have h1 := hin i hi
      have hi2 : i < elems.length := by omega
      rw [List.getElem?_eq_getElem hi2] at h1
      cases hcs : w.cells? 0 (a.add (i * 2)) 2 with
      | none => rw [hcs] at h1; simp at h1
      | some cs' =>
        rw [hcs] at h1
        obtain ⟨t, ta, tcap, e, hi, hT⟩ := fl_of_trod (fuel := m2) (cs := cs') h1
        obtain ⟨_, _, hcell⟩ := World.cells?_some hcs
        rw [e] at hcell
        exact ⟨(t, ta, tcap), ⟨hcell 0 (by decide), hcell 1 (by decide)⟩, hi, hT⟩
    have inh : Inhabited (Fl × Option Addr × Nat) := ⟨(zeroF, none, 0)⟩
    obtain ⟨T, hT⟩ := Go.Deep.choose_lt each
    have hkl : ((List.range len).map fun i => (T i).1).length = len := by simp
    refine ⟨(List.range len).map fun i => (T i).1, some a, cap, by rw [hkl], some a, cap, rfl, by rw [hkl]; exact hl, by rw [hkl]; unfold maxLen at hcm; omega, fun i hi => ?_⟩
    have hi' : i < len := by rw [← hkl]; exact hi
    obtain ⟨⟨h0, h1⟩, h2, h3⟩ := hT i hi'
    rw [getD_range len (fun i => (T i).1) i hi' zeroF]
    have hspot : a.spot = none := by
      have := World.cell?_spot (hT 0 (by omega)).1.1
      simpa [Addr.add] using this
    obtain ⟨b, o, sp⟩ := a
    simp only at hspot
    subst hspot
    rw [addW, addW] at h0 h1
    exact ⟨b, o, _, _, rfl, trivial, ⟨h0, h1, h3, h2⟩⟩
set_option maxRecDepth 100000 in
theorem pl_of_trod {fuel : Nat} {cs : List Value} {x : DataW H × List MemPlace} (h : DataW.trod enc Try.prog w 0 (fun _ => true) true fuel 57 cs = some x) :
    ∃ (p : Pl) (aa : Option Addr) (ca : Nat) (ao : Option Addr) (co : Nat), cs = [.int .i64 p.kind, .string (ba p.name), .int .i64 p.n, .slice aa p.arg.length ca, .slice ao p.out.length co] ∧ PlV w (fun _ => True) p aa ca ao co := by
  obtain ⟨xs, n, rfl, _, hlen, hxs, hf⟩ := DataW.trod_struct Try.underlying57 h
  have hc : Try.prog.cellsOf 57 = 5 := by kernel_rfl
  have hc3 : Try.prog.cellsOf 3 = 1 := by kernel_rfl
  have hc9 : Try.prog.cellsOf 9 = 1 := by kernel_rfl
  have hc29 : Try.prog.cellsOf 29 = 1 := by kernel_rfl
  have hc55 : Try.prog.cellsOf 55 = 1 := by kernel_rfl
  rw [hc] at hlen
  obtain ⟨c0, c1, c2, c3, c4, rfl⟩ : ∃ c0 c1 c2 c3 c4, cs = [c0, c1, c2, c3, c4] := by
    match cs, hlen with
    | [c0, c1, c2, c3, c4], _ => exact ⟨c0, c1, c2, c3, c4, rfl⟩
  obtain ⟨y0, y1, y2, y3, y4, rfl⟩ : ∃ y0 y1 y2 y3 y4, xs = [y0, y1, y2, y3, y4] := by
    have hxs2 : xs.length = 5 := by rw [hxs]; rfl
    match xs, hxs2 with
    | [y0, y1, y2, y3, y4], _ => exact ⟨y0, y1, y2, y3, y4, rfl⟩
  have f0 : DataW.trod enc Try.prog w 0 (fun _ => true) true n 3 ((List.drop 0 [c0, c1, c2, c3, c4]).take (Try.prog.cellsOf 3)) = some y0 := hf 0 _ rfl
  have f1 : DataW.trod enc Try.prog w 0 (fun _ => true) true n 9 ((List.drop 1 [c0, c1, c2, c3, c4]).take (Try.prog.cellsOf 9)) = some y1 := hf 1 _ rfl
  have f2 : DataW.trod enc Try.prog w 0 (fun _ => true) true n 3 ((List.drop 2 [c0, c1, c2, c3, c4]).take (Try.prog.cellsOf 3)) = some y2 := hf 2 _ rfl
  have f3 : DataW.trod enc Try.prog w 0 (fun _ => true) true n 29 ((List.drop 3 [c0, c1, c2, c3, c4]).take (Try.prog.cellsOf 29)) = some y3 := hf 3 _ rfl
  have f4 : DataW.trod enc Try.prog w 0 (fun _ => true) true n 55 ((List.drop 4 [c0, c1, c2, c3, c4]).take (Try.prog.cellsOf 55)) = some y4 := hf 4 _ rfl
  rw [hc3] at f0 f2
  rw [hc9] at f1
  rw [hc29] at f3
  rw [hc55] at f4
  obtain ⟨k, e0, _, wk⟩ := DataW.trod_int Try.underlying3 (x := y0) f0
  obtain ⟨s, e1, _, ws⟩ := DataW.trod_string Try.underlying9 (x := y1) f1
  obtain ⟨m, e2, _, wm⟩ := DataW.trod_int Try.underlying3 (x := y2) f2
  simp at e0 e1 e2
  subst e0; subst e1; subst e2
  have wsz : s.data.toList.length ≤ 9223372036854775807 := by rw [Array.length_toList]; exact ws
  obtain ⟨l, a, cap, e3, hE⟩ := exs_of_trod (c := c3) f3
  obtain ⟨lo, ao, co, e4, hF⟩ := fls_of_trod (c := c4) f4
  exact ⟨⟨k, s.data.toList, m, l, lo⟩, a, cap, ao, co, by rw [e3, e4]; simp [ba_of], in_of_wf wk, in_of_wf wm, wsz, hE, hF⟩
set_option maxRecDepth 100000 in
theorem pls_of_trod {fuel : Nat} {c : Value} {x : DataW H × List MemPlace} (h : DataW.trod enc Try.prog w 0 (fun _ => true) true fuel 22 [c] = some x) :
    ∃ (l : List Pl) (a : Option Addr) (cap : Nat), c = .slice a l.length cap ∧ PlsV w (fun _ => True) (.slice a l.length cap) l := by
  have hc : Try.prog.cellsOf 57 = 5 := by kernel_rfl
  rcases DataW.trod_slice Try.underlying22 h with ⟨e3, _⟩ | ⟨a, len, cap, elems, rest, m2, hm2, e3, _, _, hl, hcm, hel, hin, _⟩
  · simp at e3
    subst e3
    exact ⟨[], none, 0, rfl, PlsV.nil w _⟩
  · simp at e3
    subst e3
    rw [hc] at hin
    have each : ∀ i, i < len → ∃ tt : Pl × (Option Addr × Nat) × Option Addr × Nat, (w.cell? ((a.add (i * 5)).add 0) = some (.int .i64 tt.1.kind) ∧ w.cell? ((a.add (i * 5)).add 1) = some (.string (ba tt.1.name)) ∧ w.cell? ((a.add (i * 5)).add 2) = some (.int .i64 tt.1.n) ∧ w.cell? ((a.add (i * 5)).add 3) = some (.slice tt.2.1.1 tt.1.arg.length tt.2.1.2) ∧ w.cell? ((a.add (i * 5)).add 4) = some (.slice tt.2.2.1 tt.1.out.length tt.2.2.2)) ∧ PlV w (fun _ => True) tt.1 tt.2.1.1 tt.2.1.2 tt.2.2.1 tt.2.2.2 := by
      intro i hi
      have h1 := hin i hi
      have hi2 : i < elems.length := by omega
      rw [List.getElem?_eq_getElem hi2] at h1
      cases hcs : w.cells? 0 (a.add (i * 5)) 5 with
      | none => rw [hcs] at h1; simp at h1
      | some cs' =>
        rw [hcs] at h1
        obtain ⟨t, aa, ca, ao, co, e, hT⟩ := pl_of_trod (fuel := m2) (cs := cs') h1
        obtain ⟨_, _, hcell⟩ := World.cells?_some hcs
        rw [e] at hcell
        exact ⟨(t, (aa, ca), ao, co), ⟨hcell 0 (by decide), hcell 1 (by decide), hcell 2 (by decide), hcell 3 (by decide), hcell 4 (by decide)⟩, hT⟩
    have inh : Inhabited (Pl × (Option Addr × Nat) × Option Addr × Nat) := ⟨(zeroP, (none, 0), none, 0)⟩
    obtain ⟨T, hT⟩ := Go.Deep.choose_lt each
    have hkl : ((List.range len).map fun i => (T i).1).length = len := by simp
    refine ⟨(List.range len).map fun i => (T i).1, some a, cap, by rw [hkl], some a, cap, rfl, by rw [hkl]; exact hl, by rw [hkl]; unfold maxLen at hcm; omega, fun i hi => ?_⟩
    have hi' : i < len := by rw [← hkl]; exact hi
    obtain ⟨⟨h0, h1, h2, h3, h4⟩, h5⟩ := hT i hi'
    rw [getD_range len (fun i => (T i).1) i hi' zeroP]
    have hspot : a.spot = none := by
      have := World.cell?_spot (hT 0 (by omega)).1.1
      simpa [Addr.add] using this
    obtain ⟨b, o, sp⟩ := a
    simp only at hspot
    subst hspot
    rw [addW, addW] at h0 h1 h2 h3 h4
    exact ⟨b, o, _, _, _, _, rfl, trivial, ⟨h0, h1, h2, h3, h4, h5⟩⟩
set_option maxRecDepth 100000 in
theorem df_of_trod {fuel : Nat} {cs : List Value} {x : DataW H × List MemPlace} (h : DataW.trod enc Try.prog w 0 (fun _ => true) true fuel 24 cs = some x) :
    ∃ (d : Df) (a : Option Addr) (cap : Nat), cs = [.string (ba d.id), .slice a d.places.length cap] ∧ DfV w (fun _ => True) d a cap := by
  obtain ⟨xs, n, rfl, _, hlen, hxs, hf⟩ := DataW.trod_struct Try.underlying24 h
  have hc : Try.prog.cellsOf 24 = 2 := by kernel_rfl
  have hc9 : Try.prog.cellsOf 9 = 1 := by kernel_rfl
  have hc22 : Try.prog.cellsOf 22 = 1 := by kernel_rfl
  rw [hc] at hlen
  obtain ⟨c0, c1, rfl⟩ : ∃ c0 c1, cs = [c0, c1] := by
    match cs, hlen with
    | [c0, c1], _ => exact ⟨c0, c1, rfl⟩
  obtain ⟨y0, y1, rfl⟩ : ∃ y0 y1, xs = [y0, y1] := by
    have hxs2 : xs.length = 2 := by rw [hxs]; rfl
    match xs, hxs2 with
    | [y0, y1], _ => exact ⟨y0, y1, rfl⟩
  have f0 : DataW.trod enc Try.prog w 0 (fun _ => true) true n 9 ((List.drop 0 [c0, c1]).take (Try.prog.cellsOf 9)) = some y0 := hf 0 _ rfl
  have f1 : DataW.trod enc Try.prog w 0 (fun _ => true) true n 22 ((List.drop 1 [c0, c1]).take (Try.prog.cellsOf 22)) = some y1 := hf 1 _ rfl
  rw [hc9] at f0
  rw [hc22] at f1
  obtain ⟨s, e0, _, ws⟩ := DataW.trod_string Try.underlying9 (x := y0) f0
  simp at e0
  subst e0
  have wsz : s.data.toList.length ≤ 9223372036854775807 := by rw [Array.length_toList]; exact ws
  obtain ⟨l, a, cap, e1, hE⟩ := pls_of_trod (c := c1) f1
  exact ⟨⟨s.data.toList, l⟩, a, cap, by rw [e1]; simp [ba_of], wsz, hE⟩
theorem df_of_Trod {v : Value} {d : DataW H} {p : List MemPlace} (h : DataW.Trod enc Try.prog w 0 (fun _ => true) true 24 v d p) : ∃ (d : Df) (a : Option Addr) (cap : Nat), v = dfA d a cap ∧ DfV w (fun _ => True) d a cap := by
  obtain ⟨fuel, hf⟩ := h
  obtain ⟨t, a, cap, e, hT⟩ := df_of_trod hf
  refine ⟨t, a, cap, ?_, hT⟩
  cases v with
  | agg cs =>
    have : cs.toList = [.string (ba t.id), .slice a t.places.length cap] := e
    rw [show cs = ⟨cs.toList⟩ from rfl, this]; rfl
  | _ => have := congrArg List.length e; simp [Value.cells] at this
theorem bytes_of_Trod {v : Value} {d : DataW H} {p : List MemPlace} (h : DataW.Trod enc Try.prog w 0 (fun _ => true) true 32 v d p) (hv : ∃ a n c, v = .slice a n c) : ∃ l, V.ReadsV w v l := by
  obtain ⟨a, n, c, rfl⟩ := hv
  obtain ⟨fuel, hf⟩ := h
  rcases open_ints Try.underlying32 Try.underlying5 (by kernel_rfl) hf with ⟨hcs, _⟩ | ⟨x, l, cc, zs, hcs, _, hl, hm, hz, hx, hcell, hwz⟩
  · simp [Value.cells] at hcs
    obtain ⟨rfl, rfl, rfl⟩ := hcs
    exact ⟨[], V.ReadsV.nil w⟩
  · simp [Value.cells] at hcs
    obtain ⟨rfl, rfl, rfl⟩ := hcs
    obtain ⟨lb, hlb, rb⟩ := V.readsV_of (w := w) (a := some x) (len := n) (cap := c) (zs := zs) (.inr ⟨_, rfl, hl, hm, by simpa using hz, hcell, hwz⟩)
    exact ⟨lb, rb⟩
end
end
section
open Go.RowKit
set_option linter.unusedVariables false

/-- What reading a definition comes to. -/
structure Rdd (l : BB) (er : Nat) (D : Df) : Prop where
  ok : ∀ d, readE l = .ok d → er = 0 ∧ D = d
  bad : ∀ e, readE l = .error e → er = e ∧ D = zeroD
theorem rdd_any (l : BB) : ∃ er D, Rdd l er D := by
  rcases h : readE l with e | d
  · exact ⟨e, zeroD, ⟨fun d q => (by rw [h] at q; cases q), fun e' q => (by rw [h] at q; cases q; exact ⟨rfl, rfl⟩)⟩⟩
  · exact ⟨0, d, ⟨fun d' q => (by rw [h] at q; cases q; exact ⟨rfl, rfl⟩), fun e' q => (by rw [h] at q; cases q)⟩⟩
theorem zero_df (w : World) (P : Nat → Prop) : DfV w P zeroD none 0 := ⟨by decide, PlsV.nil _ _⟩
theorem reads_23 (v : Value) (l : BB) (er : Nat) (D : Df) (hx : Rdd l er D) (w : World) (h : V.ReadsV w v l) : Calls Try.prog 23 #[v] w fun e w' => ∃ ra rc, e = .returned (.tuple #[.agg #[.string (ba D.id), .slice ra D.places.length rc], .int .i64 er]) ∧ DfV w' (fun _ => True) D ra rc ∧ Below w.heap.size w w' := by
  rcases hq : readE l with e | d
  · obtain ⟨rfl, rfl⟩ := hx.bad _ hq
    refine (Read_err v l w h _ hq).mono ?_
    rintro e w' ⟨rfl, q⟩
    exact ⟨none, 0, rfl, zero_df _ _, q⟩
  · obtain ⟨rfl, rfl⟩ := hx.ok _ hq
    refine (Read_ok v l w h _ hq).mono ?_
    rintro e w' ⟨ra, rc, rfl, q1, q2⟩
    exact ⟨ra, rc, rfl, q1.kept (kept_sub fun _ _ => True.intro), q2⟩
theorem reads_24 (v : Value) (l : BB) (er : Nat) (D : Df) (hx : Rdd l er D) (hl : l.length ≤ 3000) (w : World) (h : V.ReadsV w v l) : Calls Try.prog 24 #[v] w fun e w' => ∃ ra rc, e = .returned (.tuple #[.agg #[.string (ba D.id), .slice ra D.places.length rc], .int .i64 er]) ∧ DfV w' (fun _ => True) D ra rc ∧ Below w.heap.size w w' := by
  refine (RRead_any v l w hl h).mono ?_
  rintro e w' ⟨str, a, ln, c, e', rfl, q1, ⟨d, q2, rfl, rfl, rfl, q3⟩ | ⟨q2, q3, rfl, rfl, rfl, rfl⟩⟩
  · obtain ⟨rfl, rfl⟩ := hx.ok _ q2
    exact ⟨a, c, rfl, q3, q1⟩
  · obtain ⟨rfl, rfl⟩ := hx.bad _ q2
    exact ⟨none, 0, rfl, zero_df _ _, q1⟩
theorem same_df (D : Df) (a : Option Addr) (c : Nat) (b : Option Addr) (d : Nat) (w : World) (h1 : DfV w (fun _ => True) D a c) (h2 : DfV w (fun _ => True) D b d) : Calls Try.prog 25 #[.agg #[.string (ba D.id), .slice a D.places.length c], .agg #[.string (ba D.id), .slice b D.places.length d]] w fun e w' => e = .returned (.bool true) ∧ Below w.heap.size w w' :=
  (RDSame_any _ _ D D a c b d w h1 h2).mono fun e w' q => ⟨q.1.of_yes rfl, q.2⟩
set_option maxRecDepth 100000 in
set_option maxHeartbeats 600000 in
theorem reads_walk (vb : Value) (l : BB) (w : World) (hb : V.ReadsV w vb l) : Calls Try.prog 6 #[vb] w fun e w' => e = .returned (.bool true) ∧ Below w.heap.size w w' := by
  have hb' := hb
  obtain ⟨ab, cb, rfl, _⟩ := hb'
  have H10 : Hid (∀ w1, Below w.heap.size w w1 → Calls Try.prog 10 #[] w1 fun e w' => e = .returned (.bool true) ∧ Below w.heap.size w w') := fun w1 q => (works_any w1).mono fun e w' q1 => ⟨q1.1, q.trans (q1.2.mono q.size)⟩
  by_cases hl : l.length ≤ 3000
  · obtain ⟨er, D, hx⟩ := rdd_any l
    have H23 : Hid (Calls Try.prog 23 #[.slice ab l.length cb] w fun e w' => ∃ ra rc, e = .returned (.tuple #[.agg #[.string (ba D.id), .slice ra D.places.length rc], .int .i64 er]) ∧ DfV w' (fun _ => True) D ra rc ∧ Below w.heap.size w w') := reads_23 _ l er D hx w hb
    have H24 : Hid (∀ w1, Below w.heap.size w w1 → Calls Try.prog 24 #[.slice ab l.length cb] w1 fun e w' => ∃ ra rc, e = .returned (.tuple #[.agg #[.string (ba D.id), .slice ra D.places.length rc], .int .i64 er]) ∧ DfV w' (fun _ => True) D ra rc ∧ Below w1.heap.size w1 w') := fun w1 q => reads_24 _ l er D hx hl w1 (hb.below q)
    have H25 : Hid (∀ a c b d w1, DfV w1 (fun _ => True) D a c → DfV w1 (fun _ => True) D b d → Calls Try.prog 25 #[.agg #[.string (ba D.id), .slice a D.places.length c], .agg #[.string (ba D.id), .slice b D.places.length d]] w1 fun e w' => e = .returned (.bool true) ∧ Below w1.heap.size w1 w') := fun a c b d w1 q1 q2 => same_df D a c b d w1 q1 q2
    clear hb hx
    generalize l.length = nl at *
    generalize ba D.id = ds at *
    generalize D.places.length = pn at *
    go_enter Try.func6, Try.ntmps6
    go_wp2_with (first
      | (go_at_call 10; have := T4; refine (H10.out _ T4.out).mono ?_; rintro e wz ⟨rfl, qz⟩; have TZ : Hid (Below w.heap.size w wz) := qz; clear qz)
      | (go_at_call 25; have := T3; refine (H25.out _ _ _ _ _ (T3.out.2.1.kept (kept_below ((Below.refl _ _).alloc (Nat.le_refl _) _))) (T3.out.2.2.kept (kept_below ((Below.refl _ _).alloc (Nat.le_refl _) _)))).mono ?_; rintro e w4 ⟨rfl, q1⟩; have T4 : Hid (Below w.heap.size w w4) := T3.out.1.trans ((below_new q1).mono T3.out.1.size); clear q1 T3)
      | (go_at_call 24; have := T2; refine (H24.out _ (T2.out.1.alloc T2.out.1.size _)).mono ?_; rintro e w3 ⟨zb, zc, rfl, q1, q2⟩; have T3 : Hid (Below w.heap.size w w3 ∧ DfV w3 (fun _ => True) D ya yc ∧ DfV w3 (fun _ => True) D zb zc) := ⟨T2.out.1.trans ((below_new q2).mono T2.out.1.size), T2.out.2.kept (kept_below (below_new q2)), q1⟩; obtain ⟨y0, y1, y2⟩ := (Cell2.new w2 (.string ds) (.slice ya pn yc) 24).below q2; have hly := World.block_lt_of_cell? _ _ y0; clear q1 q2 T2)
      | (go_at_call 23; refine H23.out.mono ?_; rintro e w2 ⟨ya, yc, rfl, q1, q2⟩; have T2 : Hid (Below w.heap.size w w2 ∧ DfV w2 (fun _ => True) D ya yc) := ⟨q2, q1⟩; clear q1 q2))
    go_ret
    exact ⟨rfl, TZ.out⟩
  · have HB : Hid (Below w.heap.size w w) := Below.refl _ _
    clear hb
    generalize l.length = nl at *
    go_enter Try.func6, Try.ntmps6
    go_wp2_with (go_at_call 10; refine (H10.out _ HB.out).mono ?_; rintro e wz ⟨rfl, qz⟩; have TZ : Hid (Below w.heap.size w wz) := qz; clear qz)
    go_ret
    exact ⟨rfl, TZ.out⟩
end
end Go.Proofs.Ytjafjheffbbkmaa
