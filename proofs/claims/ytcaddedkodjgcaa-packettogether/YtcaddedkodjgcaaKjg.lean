/-
  The program's reader: msg: its contract.
-/
import Derived.Test.YtcaddedkodjgcaaKjb
import Derived.Test.YtcaddedkodjgcaaAnl
namespace Go.Proofs.Ytcaddedkodjgcaa
section
open Go.RowKit Pack
set_option linter.unusedVariables false
set_option linter.unusedSimpArgs false

/-- A message that is read, in block N; its answer's place, in the block right above w; the reader, in block K. -/
structure Mt (w0 w wr : World) (K N : Nat) (s : St) (u0 u1 u2 u3 u4 u5 u6 u7 u8 u9 u10 : Value) : Prop where
  rv : Rv w0 wr K s
  kx : Kx K w wr
  lt : K < w.heap.size
  z : Zc wr w.heap.size
  n : w.heap.size < N
  c : Cl11 wr N u0 u1 u2 u3 u4 u5 u6 u7 u8 u9 u10
section
variable {w0 w wr w' : World} {K N : Nat} {s s' : St} {u0 u1 u2 u3 u4 u5 u6 u7 u8 u9 u10 : Value}
theorem Mt.num (h : Mt w0 w wr K N s u0 u1 u2 u3 u4 u5 u6 u7 u8 u9 u10) (hr : Rv w0 w' K s') (hx : Kx K wr w') : Mt w0 w w' K N s' u0 u1 u2 u3 u4 u5 u6 u7 u8 u9 u10 := by
  have h1 := h.lt
  have h2 := h.n
  exact ⟨hr, h.kx.trans hx, h.lt, h.z.kept (hx.k _ h.z.lt (by omega)), h.n, h.c.kept (hx.k _ h.c.lt (by omega))⟩
theorem Mt.below (h : Mt w0 w wr K N s u0 u1 u2 u3 u4 u5 u6 u7 u8 u9 u10) (hb : Below wr.heap.size wr w') : Mt w0 w w' K N s u0 u1 u2 u3 u4 u5 u6 u7 u8 u9 u10 := h.num (h.rv.below hb) (Kx.below hb (Nat.le_of_lt h.rv.lt))
/-- Something above its blocks was turned. -/
theorem Mt.over (h : Mt w0 w wr K N s u0 u1 u2 u3 u4 u5 u6 u7 u8 u9 u10) (hb : Below (N + 1) wr w') : Mt w0 w w' K N s u0 u1 u2 u3 u4 u5 u6 u7 u8 u9 u10 := by
  have h1 := h.lt
  have h2 := h.n
  have h3 := h.rv.z
  exact ⟨h.rv.kept (hb.mono (by omega)) (hb.block _ (by omega)), ⟨h.kx.b.trans (hb.mono (by omega)), fun g hg hn => (hb.block _ (by omega)).trans (h.kx.k g hg hn)⟩, h.lt, h.z.kept (hb.block _ (by omega)), h.n, h.c.kept (hb.block _ (by omega))⟩
theorem Mt.put (h : Mt w0 w wr K N s u0 u1 u2 u3 u4 u5 u6 u7 u8 u9 u10) (j : Nat) (x : Value) : Mt w0 w (wr.setCell ⟨N, j, none⟩ x) K N s (if j = 0 then x else u0) (if j = 1 then x else u1) (if j = 2 then x else u2) (if j = 3 then x else u3) (if j = 4 then x else u4) (if j = 5 then x else u5) (if j = 6 then x else u6) (if j = 7 then x else u7) (if j = 8 then x else u8) (if j = 9 then x else u9) (if j = 10 then x else u10) := by
  have h1 := h.lt
  have h2 := h.n
  have h3 := h.rv.z
  have hb : Below N wr (wr.setCell ⟨N, j, none⟩ x) := (Below.refl _ _).setCell (p := ⟨N, j, none⟩) (Nat.le_refl _) _
  exact ⟨h.rv.kept (hb.mono (by omega)) (hb.block _ (by omega)), ⟨h.kx.b.trans (hb.mono (by omega)), fun g hg hn => (hb.block _ (by omega)).trans (h.kx.k g hg hn)⟩, h.lt, h.z.kept (hb.block _ (by omega)), h.n, h.c.put j x⟩
end
/-- What the loop keeps. -/
structure Mk2 (w0 w wr : World) (K N : Nat) (s : St) (es : List En) (u0 u1 u2 u3 u4 u5 u6 u7 u8 : Value) (ea : Option Addr) (ec : Nat) : Prop where
  m : Mt w0 w wr K N s u0 u1 u2 u3 u4 u5 u6 u7 u8 (.slice ea es.length ec) (.slice none 0 0)
  g : Gz wr (N + 1) (fun g => N + 1 ≤ g) (.slice ea es.length ec) es
theorem resMsgT {w : World} {Q : Nat} {v0 v1 v2 v3 v4 v5 v6 v7 v8 v9 v10 : Value} (tmps : Array Value) (h : Cl11 w Q v0 v1 v2 v3 v4 v5 v6 v7 v8 v9 v10) (h4 : tmps.getD 2 undef = .pointer (some ⟨Q, 0, none⟩)) : (results Try.f57 tmps).run Try.prog w = .ok (.agg #[v0, v1, v2, v3, v4, v5, v6, v7, v8, v9, v10]) w := by
  have h4' : tmps[2]?.getD undef = .pointer (some ⟨Q, 0, none⟩) := by simpa using h4
  simp [results, Try.results57, h4', loadMsg h, asAddr]

/-- The message's box, new. -/
theorem Mt.first {w0 w w7 : World} {K : Nat} {s : St} (h : Rv w0 w7 K s) (hk : Kx K (w.alloc (Obj.cells #[.int .i64 0, .int .i64 0, .int .i64 0, .int .i64 0, .int .i64 0, .int .i64 0, .int .i64 0, .int .i64 0, .bool false, .slice none 0 0, .slice none 0 0] 51)) w7) (hlt : K < w.heap.size) (u0 u1 u2 u3 u4 u5 u6 u7 u8 : Value) : Mt w0 w (w7.alloc (Obj.cells #[u0, u1, u2, u3, u4, u5, u6, u7, u8, .slice none 0 0, .slice none 0 0] 51)) K w7.heap.size s u0 u1 u2 u3 u4 u5 u6 u7 u8 (.slice none 0 0) (.slice none 0 0) := by
  have hz := hk.b.size
  rw [size_alloc] at hz
  have ha : Below w7.heap.size w7 (w7.alloc (Obj.cells #[u0, u1, u2, u3, u4, u5, u6, u7, u8, .slice none 0 0, .slice none 0 0] 51)) := (Below.refl _ _).alloc (Nat.le_refl _) _
  have h0 : Below w.heap.size w (w.alloc (Obj.cells #[.int .i64 0, .int .i64 0, .int .i64 0, .int .i64 0, .int .i64 0, .int .i64 0, .int .i64 0, .int .i64 0, .bool false, .slice none 0 0, .slice none 0 0] 51)) := (Below.refl _ _).alloc (Nat.le_refl _) _
  have hZ : Zc (w.alloc (Obj.cells #[.int .i64 0, .int .i64 0, .int .i64 0, .int .i64 0, .int .i64 0, .int .i64 0, .int .i64 0, .int .i64 0, .bool false, .slice none 0 0, .slice none 0 0] 51)) w.heap.size := Cl11.new w _ _ _ _ _ _ _ _ _ _ _ _
  exact ⟨h.below ha, (Kx.below h0 (Nat.le_of_lt hlt)).trans (hk.trans (Kx.below ha (Nat.le_of_lt h.lt))), hlt, (hZ.kept (hk.k _ hZ.lt (by omega))).below ha, by omega, Cl11.new w7 _ _ _ _ _ _ _ _ _ _ _ _⟩
set_option maxRecDepth 100000 in
set_option maxHeartbeats 4000000 in
theorem msg_next {w0 w : World} {K : Nat} {s : St} (h : Rv w0 w K s) (hl : s.1.length ≤ 100000000) : Calls Try.prog 57 #[.pointer (some ⟨K, 0, none⟩)] w fun e w' => ∃ ax, e = .returned (msA ax (msgT 0 0 s).1) ∧ MsV w' (fun g => w.heap.size ≤ g) ax (msgT 0 0 s).1 ∧ Rv w0 w' K (msgT 0 0 s).2 ∧ Kx K w w' := by
  obtain ⟨p0, hp0⟩ : ∃ p, numS 7 s = p := ⟨_, rfl⟩
  obtain ⟨p1, hp1⟩ : ∃ p, numS 64 p0.2 = p := ⟨_, rfl⟩
  obtain ⟨p2, hp2⟩ : ∃ p, numS 1099511627776 p1.2 = p := ⟨_, rfl⟩
  obtain ⟨p3, hp3⟩ : ∃ p, numS 1099511627776 p2.2 = p := ⟨_, rfl⟩
  obtain ⟨p4, hp4⟩ : ∃ p, numS 1099511627776 p3.2 = p := ⟨_, rfl⟩
  obtain ⟨p5, hp5⟩ : ∃ p, numS 1099511627776 p4.2 = p := ⟨_, rfl⟩
  obtain ⟨p6, hp6⟩ : ∃ p, numS 1 p5.2 = p := ⟨_, rfl⟩
  obtain ⟨p7, hp7⟩ : ∃ p, numS 8 p6.2 = p := ⟨_, rfl⟩
  have HN0 : Hid (∀ wx, Rv w0 wx K s → Calls Try.prog 56 #[.pointer (some ⟨K, 0, none⟩), .int .u64 7] wx fun e w' => e = .returned (.int .i64 p0.1) ∧ Rv w0 w' K p0.2 ∧ Kx K wx w') := fun wx q => by have := number_any 7 (by decide) q; rw [hp0] at this; exact this
  have HN1 : Hid (∀ wx, Rv w0 wx K p0.2 → Calls Try.prog 56 #[.pointer (some ⟨K, 0, none⟩), .int .u64 64] wx fun e w' => e = .returned (.int .i64 p1.1) ∧ Rv w0 w' K p1.2 ∧ Kx K wx w') := fun wx q => by have := number_any 64 (by decide) q; rw [hp1] at this; exact this
  have HN2 : Hid (∀ wx, Rv w0 wx K p1.2 → Calls Try.prog 56 #[.pointer (some ⟨K, 0, none⟩), .int .u64 1099511627776] wx fun e w' => e = .returned (.int .i64 p2.1) ∧ Rv w0 w' K p2.2 ∧ Kx K wx w') := fun wx q => by have := number_any 1099511627776 (by decide) q; rw [hp2] at this; exact this
  have HN3 : Hid (∀ wx, Rv w0 wx K p2.2 → Calls Try.prog 56 #[.pointer (some ⟨K, 0, none⟩), .int .u64 1099511627776] wx fun e w' => e = .returned (.int .i64 p3.1) ∧ Rv w0 w' K p3.2 ∧ Kx K wx w') := fun wx q => by have := number_any 1099511627776 (by decide) q; rw [hp3] at this; exact this
  have HN4 : Hid (∀ wx, Rv w0 wx K p3.2 → Calls Try.prog 56 #[.pointer (some ⟨K, 0, none⟩), .int .u64 1099511627776] wx fun e w' => e = .returned (.int .i64 p4.1) ∧ Rv w0 w' K p4.2 ∧ Kx K wx w') := fun wx q => by have := number_any 1099511627776 (by decide) q; rw [hp4] at this; exact this
  have HN5 : Hid (∀ wx, Rv w0 wx K p4.2 → Calls Try.prog 56 #[.pointer (some ⟨K, 0, none⟩), .int .u64 1099511627776] wx fun e w' => e = .returned (.int .i64 p5.1) ∧ Rv w0 w' K p5.2 ∧ Kx K wx w') := fun wx q => by have := number_any 1099511627776 (by decide) q; rw [hp5] at this; exact this
  have HN6 : Hid (∀ wx, Rv w0 wx K p5.2 → Calls Try.prog 56 #[.pointer (some ⟨K, 0, none⟩), .int .u64 1] wx fun e w' => e = .returned (.int .i64 p6.1) ∧ Rv w0 w' K p6.2 ∧ Kx K wx w') := fun wx q => by have := number_any 1 (by decide) q; rw [hp6] at this; exact this
  have HN7 : Hid (∀ wx, Rv w0 wx K p6.2 → Calls Try.prog 56 #[.pointer (some ⟨K, 0, none⟩), .int .u64 8] wx fun e w' => e = .returned (.int .i64 p7.1) ∧ Rv w0 w' K p7.2 ∧ Kx K wx w') := fun wx q => by have := number_any 8 (by decide) q; rw [hp7] at this; exact this
  have e0 : numsS topL s = ([p0.1, p1.1, p2.1, p3.1, p4.1, p5.1, p6.1, p7.1], p7.2) := by
    unfold topL
    simp only [numsS, hp0, hp1, hp2, hp3, hp4, hp5, hp6, hp7]
  obtain ⟨n, hn⟩ : ∃ n : Nat, p7.1 = n := ⟨p7.1.toNat, by have := (numS_pos 8 p6.2).1; rw [hp7] at this; omega⟩
  have hn8 : n ≤ 8 := by have := (numS_pos 8 p6.2).2; rw [hp7, hn] at this; omega
  have hlt := h.lt
  have hr7 : p7.2.1.length ≤ s.1.length := by have := nums_rest topL s; rw [e0] at this; exact this
  have H0 : Hid (Rv w0 (w.alloc (Obj.cells #[.int .i64 0, .int .i64 0, .int .i64 0, .int .i64 0, .int .i64 0, .int .i64 0, .int .i64 0, .int .i64 0, .bool false, .slice none 0 0, .slice none 0 0] 51)) K s ∧ Kx K (w.alloc (Obj.cells #[.int .i64 0, .int .i64 0, .int .i64 0, .int .i64 0, .int .i64 0, .int .i64 0, .int .i64 0, .int .i64 0, .bool false, .slice none 0 0, .slice none 0 0] 51)) (w.alloc (Obj.cells #[.int .i64 0, .int .i64 0, .int .i64 0, .int .i64 0, .int .i64 0, .int .i64 0, .int .i64 0, .int .i64 0, .bool false, .slice none 0 0, .slice none 0 0] 51))) := ⟨h.below ((Below.refl _ _).alloc (Nat.le_refl _) _), Kx.refl _ _⟩
  have HFin : Hid (∀ (w' : World) (e : Ending) (ea da : Option Addr) (ec dc : Nat) (es : List En) (s1 s2 : St) (d : BB), entsT n p7.2 = (es, s1) → txtS s1 = (d, s2) → e = .returned (.agg #[.int .i64 p0.1, .int .i64 p1.1, .int .i64 0, .int .i64 0, .int .i64 p2.1, .int .i64 p3.1, .int .i64 p4.1, .int .i64 p5.1, .bool (p6.1 == 1), .slice ea es.length ec, .slice da d.length dc]) → EnsV w' (fun g => w.heap.size ≤ g) ea ec es → ReadsV w' (.slice da d.length dc) d → PV (fun g => w.heap.size ≤ g) da d.length → Rv w0 w' K s2 → Kx K w w' → ∃ ax, e = .returned (msA ax (msgT 0 0 s).1) ∧ MsV w' (fun g => w.heap.size ≤ g) ax (msgT 0 0 s).1 ∧ Rv w0 w' K (msgT 0 0 s).2 ∧ Kx K w w') := fun w' e ea da ec dc es s1 s2 d q1 q2 q3 q4 q5 q6 q7 q8 => by
    have e1 : msgT 0 0 s = (msgOf 0 0 [p0.1, p1.1, p2.1, p3.1, p4.1, p5.1, p6.1, p7.1] es d, s2) := by
      unfold msgT
      rw [e0]
      simp only [List.getD_cons_zero, List.getD_cons_succ]
      rw [hn, Int.toNat_natCast, q1]
      simp only
      rw [q2]
    rw [e1]
    exact ⟨⟨ea, ec, da, dc⟩, q3, ⟨q4, q5, q6⟩, q7, q8⟩
  have HE : Hid (∀ wx s, Rv w0 wx K s → Calls Try.prog 56 #[.pointer (some ⟨K, 0, none⟩), .int .u64 1099511627776] wx fun e w' => e = .returned (.int .i64 (numS 1099511627776 s).1) ∧ Rv w0 w' K (numS 1099511627776 s).2 ∧ Kx K wx w') := fun wx s q => number_any 1099511627776 (by decide) q
  have HTx : Hid (∀ wx s', s'.1.length ≤ p7.2.1.length → Rv w0 wx K s' → Calls Try.prog 63 #[.pointer (some ⟨K, 0, none⟩)] wx (ByP w0 wx K (txtS s').1 (txtS s').2)) := fun wx s' q2 q => bytes_next q (fun _ => by omega)
  have hmf : ∀ (fn : Fn) (first cap : Array Value) (w : World), (Instr.makeFunc fn first cap).run Try.prog w = .ok (.func fn first cap) w := fun _ _ _ _ => rfl
  rw [hn] at HN7
  clear hp0 hp1 hp2 hp3 hp4 hp5 hp6 hp7 e0 hn h hr7
  go_enter Try.func57, Try.ntmps57
  go_wp2_with (first
      | (go_at_call 56; refine (HN7.out _ (H7.out.1.below ((Below.refl _ _).alloc (Nat.le_refl _) _))).mono ?_; rintro e w8 ⟨rfl, q1, q2⟩; have G7 : Hid (Mt w0 w w8 K w7.heap.size p7.2 (.int .i64 p0.1) (.int .i64 p1.1) (.int .i64 0) (.int .i64 0) (.int .i64 p2.1) (.int .i64 p3.1) (.int .i64 p4.1) (.int .i64 p5.1) (.bool (p6.1 == 1)) (.slice none 0 0) (.slice none 0 0)) := (Mt.first H7.out.1 H7.out.2 hlt (.int .i64 p0.1) (.int .i64 p1.1) (.int .i64 0) (.int .i64 0) (.int .i64 p2.1) (.int .i64 p3.1) (.int .i64 p4.1) (.int .i64 p5.1) (.bool (p6.1 == 1))).num q1 q2; clear q1 q2)
      | (go_at_call 56; refine (HN6.out _ H6.out.1).mono ?_; rintro e w7 ⟨rfl, q1, q2⟩; have H7 : Hid (Rv w0 w7 K p6.2 ∧ Kx K (w.alloc (Obj.cells #[.int .i64 0, .int .i64 0, .int .i64 0, .int .i64 0, .int .i64 0, .int .i64 0, .int .i64 0, .int .i64 0, .bool false, .slice none 0 0, .slice none 0 0] 51)) w7) := ⟨q1, H6.out.2.trans q2⟩; clear q1 q2)
      | (go_at_call 56; refine (HN5.out _ H5.out.1).mono ?_; rintro e w6 ⟨rfl, q1, q2⟩; have H6 : Hid (Rv w0 w6 K p5.2 ∧ Kx K (w.alloc (Obj.cells #[.int .i64 0, .int .i64 0, .int .i64 0, .int .i64 0, .int .i64 0, .int .i64 0, .int .i64 0, .int .i64 0, .bool false, .slice none 0 0, .slice none 0 0] 51)) w6) := ⟨q1, H5.out.2.trans q2⟩; clear q1 q2)
      | (go_at_call 56; refine (HN4.out _ H4.out.1).mono ?_; rintro e w5 ⟨rfl, q1, q2⟩; have H5 : Hid (Rv w0 w5 K p4.2 ∧ Kx K (w.alloc (Obj.cells #[.int .i64 0, .int .i64 0, .int .i64 0, .int .i64 0, .int .i64 0, .int .i64 0, .int .i64 0, .int .i64 0, .bool false, .slice none 0 0, .slice none 0 0] 51)) w5) := ⟨q1, H4.out.2.trans q2⟩; clear q1 q2)
      | (go_at_call 56; refine (HN3.out _ H3.out.1).mono ?_; rintro e w4 ⟨rfl, q1, q2⟩; have H4 : Hid (Rv w0 w4 K p3.2 ∧ Kx K (w.alloc (Obj.cells #[.int .i64 0, .int .i64 0, .int .i64 0, .int .i64 0, .int .i64 0, .int .i64 0, .int .i64 0, .int .i64 0, .bool false, .slice none 0 0, .slice none 0 0] 51)) w4) := ⟨q1, H3.out.2.trans q2⟩; clear q1 q2)
      | (go_at_call 56; refine (HN2.out _ H2.out.1).mono ?_; rintro e w3 ⟨rfl, q1, q2⟩; have H3 : Hid (Rv w0 w3 K p2.2 ∧ Kx K (w.alloc (Obj.cells #[.int .i64 0, .int .i64 0, .int .i64 0, .int .i64 0, .int .i64 0, .int .i64 0, .int .i64 0, .int .i64 0, .bool false, .slice none 0 0, .slice none 0 0] 51)) w3) := ⟨q1, H2.out.2.trans q2⟩; clear q1 q2)
      | (go_at_call 56; refine (HN1.out _ H1.out.1).mono ?_; rintro e w2 ⟨rfl, q1, q2⟩; have H2 : Hid (Rv w0 w2 K p1.2 ∧ Kx K (w.alloc (Obj.cells #[.int .i64 0, .int .i64 0, .int .i64 0, .int .i64 0, .int .i64 0, .int .i64 0, .int .i64 0, .int .i64 0, .bool false, .slice none 0 0, .slice none 0 0] 51)) w2) := ⟨q1, H1.out.2.trans q2⟩; clear q1 q2)
      | (go_at_call 56; refine (HN0.out _ H0.out.1).mono ?_; rintro e w1 ⟨rfl, q1, q2⟩; have H1 : Hid (Rv w0 w1 K p0.2 ∧ Kx K (w.alloc (Obj.cells #[.int .i64 0, .int .i64 0, .int .i64 0, .int .i64 0, .int .i64 0, .int .i64 0, .int .i64 0, .int .i64 0, .bool false, .slice none 0 0, .slice none 0 0] 51)) w1) := ⟨q1, H0.out.2.trans q2⟩; clear q1 q2))
  have hN0 : w.heap.size < w7.heap.size := by
    have := H7.out.2.b.size
    have h1 := size_alloc w (Obj.cells #[.int .i64 0, .int .i64 0, .int .i64 0, .int .i64 0, .int .i64 0, .int .i64 0, .int .i64 0, .int .i64 0, .bool false, .slice none 0 0, .slice none 0 0] 51)
    omega
  have HM : Hid (∃ ea ec, Mk2 w0 w w8 K w7.heap.size (entsT 0 p7.2).2 (entsT 0 p7.2).1 (.int .i64 p0.1) (.int .i64 p1.1) (.int .i64 0) (.int .i64 0) (.int .i64 p2.1) (.int .i64 p3.1) (.int .i64 p4.1) (.int .i64 p5.1) (.bool (p6.1 == 1)) ea ec) := ⟨none, 0, G7.out, Gz.nil _ _ _⟩
  clear HN0 HN1 HN2 HN3 HN4 HN5 HN6 HN7 H0 H1 H2 H3 H4 H5 H6 H7 G7 hmf
  generalize w7.heap.size = N at *
  go_loopw [25] (fun y wr => ∃ (i : Nat), i ≤ n ∧ y = .int .i64 i ∧ Hid (∃ ea ec, Mk2 w0 w wr K N (entsT i p7.2).2 (entsT i p7.2).1 (.int .i64 p0.1) (.int .i64 p1.1) (.int .i64 0) (.int .i64 0) (.int .i64 p2.1) (.int .i64 p3.1) (.int .i64 p4.1) (.int .i64 p5.1) (.bool (p6.1 == 1)) ea ec)) (fun y _ => n - (intOf y).toNat)
  case atStart => exact ⟨0, Nat.zero_le _, rfl, HM.out⟩
  case round =>
    clear HM
    obtain ⟨i, hi, rfl, HR⟩ := hrel
    obtain ⟨ea, ec, HQ⟩ := HR.out
    have HQ : Hid (Mk2 w0 w wr K N (entsT i p7.2).2 (entsT i p7.2).1 (.int .i64 p0.1) (.int .i64 p1.1) (.int .i64 0) (.int .i64 0) (.int .i64 p2.1) (.int .i64 p3.1) (.int .i64 p4.1) (.int .i64 p5.1) (.bool (p6.1 == 1)) ea ec) := HQ
    clear HR
    by_cases hlt2 : i < n
    · have HNx2 : Hid (entsT (i + 1) p7.2 = ((entsT i p7.2).1 ++ [(entS (entsT i p7.2).2).1], (entS (entsT i p7.2).2).2)) := rfl
      have hln := entsT_len p7.2 i
      have hrs := entsT_rest p7.2 i
      generalize entsT i p7.2 = q at *
      obtain ⟨q1, hq1⟩ : ∃ p, numS 1099511627776 q.2 = p := ⟨_, rfl⟩
      obtain ⟨q2, hq2⟩ : ∃ p, txtS q1.2 = p := ⟨_, rfl⟩
      have hent : entS q.2 = ((q1.1, q2.1), q2.2) := by unfold entS; rw [hq1, hq2]
      rw [hent] at HNx2
      have hq1l : q1.2.1.length ≤ p7.2.1.length := by have := num_len 1099511627776 q.2; rw [hq1] at this; omega
      have hE1 := HE.out
      have HE1 : Hid (∀ wx, Rv w0 wx K q.2 → Calls Try.prog 56 #[.pointer (some ⟨K, 0, none⟩), .int .u64 1099511627776] wx fun e w' => e = .returned (.int .i64 q1.1) ∧ Rv w0 w' K q1.2 ∧ Kx K wx w') := fun wx z => by have := hE1 wx q.2 z; rw [hq1] at this; exact this
      have hT1 := HTx.out
      have HT1 : Hid (∀ wx, Rv w0 wx K q1.2 → Calls Try.prog 63 #[.pointer (some ⟨K, 0, none⟩)] wx (ByP w0 wx K q2.1 q2.2)) := fun wx z => by have := hT1 wx q1.2 hq1l z; rw [hq2] at this; exact this
      have hin : InR q1.1 := by have := numS_pos 1099511627776 q.2; rw [hq1] at this; unfold InR; omega
      have HIn : Hid (InR q1.1) := hin
      have HLn : Hid (q.1.length + [(q1.1, q2.1)].length ≤ 1048576) := by show _ ≤ _; simp only [List.length_cons, List.length_nil]; omega
      have HX0 : Hid (Mt w0 w wr.drew K N q.2 (.int .i64 p0.1) (.int .i64 p1.1) (.int .i64 0) (.int .i64 0) (.int .i64 p2.1) (.int .i64 p3.1) (.int .i64 p4.1) (.int .i64 p5.1) (.bool (p6.1 == 1)) (.slice ea q.1.length ec) (.slice none 0 0)) := HQ.out.m.below ((Below.refl _ _).drew)
      have hNw : N < wr.heap.size := HQ.out.m.c.lt
      clear hE1 hT1 hent hq1 hq2 hin hrs hln hq1l HE HTx HFin
      have r9 := HQ.out.m.c.c9
      have rf := HQ.out.m.c.free
      go_wp2
      refine Ordd.begin_ 10 (fun w' : World => w'.cell? ⟨N, 9, none⟩ = some (.slice ea q.1.length ec)) (by kernel_rfl) ?_
      have HD00 : Below wr.heap.size wr wr.drew := (Below.refl _ _).drew
      obtain ⟨wd, hdr⟩ : ∃ q, wr.drew = q := ⟨_, rfl⟩
      rw [hdr] at HX0 HD00 ⊢
      have HX : Hid (Mt w0 w wd K N q.2 (.int .i64 p0.1) (.int .i64 p1.1) (.int .i64 0) (.int .i64 0) (.int .i64 p2.1) (.int .i64 p3.1) (.int .i64 p4.1) (.int .i64 p5.1) (.bool (p6.1 == 1)) (.slice ea q.1.length ec) (.slice none 0 0)) := HX0
      have HD0 : Hid (Below wr.heap.size wr wd) := HD00
      clear hdr HX0 HD00
      have hHeld : (fun w' : World => w'.cell? ⟨N, 9, none⟩ = some (.slice ea q.1.length ec)) wd := HX.out.c.c9
      refine Ordd.take (i := 0) (oi := { dst := some 27, op := Op.fieldAddr 51 (Operand.tmp 4) 9, type := 0, pos := "read.go:86", after := #[], guard := none }) (v := (.pointer (some ⟨N, 9, none⟩))) rfl rfl (by kernel_rfl) (by decide) (by kernel_rfl) (by kernel_rfl) (by kernel_rfl) (by kernel_rfl) (fun _ _ _ h => h) (Or.inl ⟨by rfl, ?_⟩) hHeld ?_
      · intro w hSw; (try dsimp only at hSw); go_simp
      try simp only [Act.put, List.setIfInBounds_toArray, List.set_cons_zero, List.set_cons_succ]
      refine Ordd.take (i := 1) (oi := { dst := some 28, op := Op.load 49 (Operand.tmp 27), type := 49, pos := "read.go:86", after := #[{ on := 0, ground := Ground.data }], guard := none }) (v := (.slice ea q.1.length ec)) rfl rfl (by kernel_rfl) (by decide) (by kernel_rfl) (by kernel_rfl) (by kernel_rfl) (by kernel_rfl) (fun _ _ _ h => h) (Or.inl ⟨by rfl, ?_⟩) hHeld ?_
      · intro w hSw; (try dsimp only at hSw); go_simp
      try simp only [Act.put, List.setIfInBounds_toArray, List.set_cons_zero, List.set_cons_succ]
      refine Ordd.take (i := 2) (oi := { dst := some 29, op := Op.move (Operand.tmp 3), type := 64, pos := "read.go:86", after := #[], guard := none }) (v := (.func (.func 56) #[.pointer (some ⟨K, 0, none⟩)] #[])) rfl rfl (by kernel_rfl) (by decide) (by kernel_rfl) (by kernel_rfl) (by kernel_rfl) (by kernel_rfl) (fun _ _ _ h => h) (Or.inl ⟨by rfl, ?_⟩) hHeld ?_
      · intro w hSw; (try dsimp only at hSw); go_simp
      try simp only [Act.put, List.setIfInBounds_toArray, List.set_cons_zero, List.set_cons_succ]
      refine Ordd.take (i := 4) (oi := { dst := some 31, op := Op.move (Operand.tmp 0), type := 85, pos := "read.go:86", after := #[], guard := none }) (v := (.pointer (some ⟨K, 0, none⟩))) rfl rfl (by kernel_rfl) (by decide) (by kernel_rfl) (by kernel_rfl) (by kernel_rfl) (by kernel_rfl) (fun _ _ _ h => h) (Or.inl ⟨by rfl, ?_⟩) hHeld ?_
      · intro w hSw; (try dsimp only at hSw); go_simp
      try simp only [Act.put, List.setIfInBounds_toArray, List.set_cons_zero, List.set_cons_succ]
      refine Ordd.ready (rs := [3]) (by kernel_rfl) (by simp) ?_
      refine Nowd.cons (o := { dst := some 30, op := Op.call { callee := Callee.value (Operand.tmp 29), args := #[Operand.const (Value.int IntKind.u64 1099511627776)], argTypes := #[40] }, type := 3, pos := "read.go:86", after := #[{ on := 2, ground := Ground.data }], guard := none }) rfl (fun K1 hK => ?_) Nowd.nil
      go_simp
      (go_at_call 56; refine (HE1.out _ HX.out.rv).mono ?_; rintro e w1 ⟨rfl, z1, z2⟩; have HA : Hid (Mt w0 w w1 K N q1.2 (.int .i64 p0.1) (.int .i64 p1.1) (.int .i64 0) (.int .i64 0) (.int .i64 p2.1) (.int .i64 p3.1) (.int .i64 p4.1) (.int .i64 p5.1) (.bool (p6.1 == 1)) (.slice ea q.1.length ec) (.slice none 0 0)) := HX.out.num z1 z2; have HK1 : Hid (wr.heap.size ≤ w1.heap.size ∧ ∀ g, g < wr.heap.size → g ≠ K → w1.heap[g]? = wr.heap[g]?) := ⟨Nat.le_trans HD0.out.size z2.b.size, fun g hg hn => (z2.k g (Nat.lt_of_lt_of_le hg HD0.out.size) hn).trans (HD0.out.block g hg)⟩; clear z1 z2)
      go_wp2_with fail
      have hHeld2 := HA.out.c.c9
      refine hK.out _ _ (.inr hHeld2) ?_
      clear hK K1 hHeld
      have hHeld := hHeld2
      clear hHeld2
      try simp only [Act.put, List.setIfInBounds_toArray, List.set_cons_zero, List.set_cons_succ]
      refine Ordd.ready (rs := [5]) (by kernel_rfl) (by simp) ?_
      refine Nowd.cons (o := { dst := some 32, op := Op.call { callee := Callee.value (Operand.func 63), args := #[Operand.tmp 31], argTypes := #[85] }, type := 27, pos := "read.go:86", after := #[{ on := 4, ground := Ground.data }, { on := 3, ground := Ground.chain }], guard := none }) rfl (fun K1 hK => ?_) Nowd.nil
      go_simp
      (go_at_call 63; refine (HT1.out _ HA.out.rv).mono ?_; rintro e w2 ⟨da, dc, rfl, hd, hp, z1, z2⟩; have HB : Hid (Mt w0 w w2 K N q2.2 (.int .i64 p0.1) (.int .i64 p1.1) (.int .i64 0) (.int .i64 0) (.int .i64 p2.1) (.int .i64 p3.1) (.int .i64 p4.1) (.int .i64 p5.1) (.bool (p6.1 == 1)) (.slice ea q.1.length ec) (.slice none 0 0)) := HA.out.num z1 z2; have HK2 : Hid (∀ g, g < wr.heap.size → g ≠ K → w2.heap[g]? = wr.heap[g]?) := fun g hg hn => (z2.k g (Nat.lt_of_lt_of_le hg HK1.out.1) hn).trans (HK1.out.2 g hg hn); have HK2s : Hid (w1.heap.size ≤ w2.heap.size) := z2.b.size; have HGz : Hid (Gz w2 (N + 1) (fun g => N + 1 ≤ g) (.slice ea q.1.length ec) q.1) := HQ.out.g.kept (fun g hg hl => HK2.out g hl (by have := hg; have := HQ.out.m.lt; have := HQ.out.m.n; omega)); have HEn : Hid (EnsV (w2.alloc (.cells #[.int .i64 q1.1, .slice da q2.1.length dc] 48)) (fun g => w1.heap.size ≤ g) (some ⟨w2.heap.size, 0, none⟩) 1 [(q1.1, q2.1)]) := EnsV.one rfl HK2s.out ⟨da, dc, rfl, rfl, hd, fun h0 x hx => hp (fun e => h0 (List.length_eq_zero_iff.1 e)) x hx, HIn.out⟩; have HPp : Hid (∀ g, w1.heap.size ≤ g → N + 1 ≤ g ∧ (Value.slice ea q.1.length ec).ownBlock ≠ some g) := fun g hg => ⟨by have := HK1.out.1; omega, fun e => by have := HQ.out.g.own g e; have := HK1.out.1; omega⟩; clear hd hp z1 z2)
      go_wp2_with fail
      have hHeld2 := HB.out.c.c9
      refine hK.out _ _ (.inr hHeld2) ?_
      clear hK K1 hHeld
      have hHeld := hHeld2
      clear hHeld2
      try simp only [Act.put, List.setIfInBounds_toArray, List.set_cons_zero, List.set_cons_succ]
      refine Ordd.take (i := 6) (oi := { dst := some 33, op := Op.build 48 #[(0, Operand.tmp 30), (1, Operand.tmp 32)], type := 48, pos := "read.go:86", after := #[{ on := 3, ground := Ground.data }, { on := 5, ground := Ground.data }], guard := none }) (v := (.agg #[.int .i64 q1.1, .slice da q2.1.length dc])) rfl rfl (by kernel_rfl) (by decide) (by kernel_rfl) (by kernel_rfl) (by kernel_rfl) (by kernel_rfl) (fun _ _ _ h => h) (Or.inl ⟨by rfl, ?_⟩) hHeld ?_
      · intro w hSw; (try dsimp only at hSw); go_simp
      try simp only [Act.put, List.setIfInBounds_toArray, List.set_cons_zero, List.set_cons_succ]
      refine Ordd.ready (rs := [7]) (by kernel_rfl) (by simp) ?_
      refine Nowd.cons (o := { dst := some 34, op := Op.buildSlice 49 1 #[(0, Operand.tmp 33)], type := 49, pos := "read.go:86", after := #[{ on := 6, ground := Ground.data }], guard := none }) rfl (fun K1 hK => ?_) Nowd.nil
      go_simp
      have HBa : Hid (Mt w0 w (w2.alloc (.cells #[.int .i64 q1.1, .slice da q2.1.length dc] 48)) K N q2.2 (.int .i64 p0.1) (.int .i64 p1.1) (.int .i64 0) (.int .i64 0) (.int .i64 p2.1) (.int .i64 p3.1) (.int .i64 p4.1) (.int .i64 p5.1) (.bool (p6.1 == 1)) (.slice ea q.1.length ec) (.slice none 0 0)) := HB.out.below ((Below.refl _ _).alloc (Nat.le_refl _) _)
      have hHeld2 := HBa.out.c.c9
      refine hK.out _ _ (.inr hHeld2) ?_
      clear hK K1 hHeld
      have hHeld := hHeld2
      clear hHeld2
      try simp only [Act.put, List.setIfInBounds_toArray, List.set_cons_zero, List.set_cons_succ]
      refine Ordd.ready (rs := [8]) (by kernel_rfl) (by simp) ?_
      refine Nowd.cons (o := { dst := some 35, op := Op.call { callee := Callee.builtin Builtin.append, args := #[Operand.tmp 28, Operand.tmp 34], argTypes := #[49, 49] }, type := 49, pos := "read.go:86", after := #[{ on := 1, ground := Ground.data }, { on := 7, ground := Ground.data }, { on := 5, ground := Ground.chain }], guard := none }) rfl (fun K1 hK => ?_) Nowd.nil
      refine step_app (B := N + 1) (S := fun g => N + 1 ≤ g) (P := fun g => w1.heap.size ≤ g) (ts := q.1) (l := [(q1.1, q2.1)]) rfl _ _ rfl (HGz.out.below ((Below.refl _ _).alloc (Nat.le_refl _) _)) HEn.out rfl (fun g hg _ => HPp.out g hg) (Nat.le_trans (Nat.le_trans hNw HK1.out.1) (Nat.le_trans HK2s.out (le_alloc _ _))) rfl rfl HLn.out ?_
      intro v9 w9 g1 g2 g3
      obtain ⟨a9, c9, hv9⟩ := Gz.form g1
      subst hv9
      have HG9 : Hid (Gz w9 (N + 1) (fun g => N + 1 ≤ g) (.slice a9 (q.1 ++ [(q1.1, q2.1)]).length c9) (q.1 ++ [(q1.1, q2.1)])) := g1
      have HX9 : Hid (Mt w0 w w9 K N q2.2 (.int .i64 p0.1) (.int .i64 p1.1) (.int .i64 0) (.int .i64 0) (.int .i64 p2.1) (.int .i64 p3.1) (.int .i64 p4.1) (.int .i64 p5.1) (.bool (p6.1 == 1)) (.slice ea q.1.length ec) (.slice none 0 0)) := HB.out.over (((Below.refl _ _).alloc (Nat.le_trans hNw (Nat.le_trans HK1.out.1 HK2s.out)) _).grown g2 (Nat.le_trans (Nat.le_trans hNw HK1.out.1) (Nat.le_trans HK2s.out (le_alloc _ _))) (fun k hk => (HGz.out.own k hk).1))
      have HX10 : Hid (Mt w0 w (w9.setCell ⟨N, 9, none⟩ (.slice a9 (q.1 ++ [(q1.1, q2.1)]).length c9)) K N q2.2 (.int .i64 p0.1) (.int .i64 p1.1) (.int .i64 0) (.int .i64 0) (.int .i64 p2.1) (.int .i64 p3.1) (.int .i64 p4.1) (.int .i64 p5.1) (.bool (p6.1 == 1)) (.slice a9 (q.1 ++ [(q1.1, q2.1)]).length c9) (.slice none 0 0)) := HX9.out.put 9 _
      have HG10 : Hid (Gz (w9.setCell ⟨N, 9, none⟩ (.slice a9 (q.1 ++ [(q1.1, q2.1)]).length c9)) (N + 1) (fun g => N + 1 ≤ g) (.slice a9 (q.1 ++ [(q1.1, q2.1)]).length c9) (q.1 ++ [(q1.1, q2.1)])) := HG9.out.kept (fun g hg _ => Below.heap_setCell _ _ _ _ (show g ≠ N by have := hg; omega))
      clear g1 g2 g3
      have v9c := HX9.out.c.c9
      have v9f := HX9.out.c.free
      refine hK.out _ _ (.inr v9c) ?_
      clear hK K1 hHeld
      try simp only [Act.put, List.setIfInBounds_toArray, List.set_cons_zero, List.set_cons_succ]
      refine Ordd.ready (rs := [9]) (by kernel_rfl) (by simp) ?_
      refine Nowd.cons (o := { dst := some 36, op := Op.fieldAddr 51 (Operand.tmp 4) 9, type := 0, pos := "read.go:86", after := #[{ on := 0, ground := Ground.phase }, { on := 1, ground := Ground.phase }, { on := 2, ground := Ground.phase }, { on := 3, ground := Ground.phase }, { on := 4, ground := Ground.phase }, { on := 5, ground := Ground.phase }, { on := 6, ground := Ground.phase }, { on := 7, ground := Ground.phase }, { on := 8, ground := Ground.phase }], guard := none }) rfl (fun K1 hK => ?_) Nowd.nil
      go_simp
      refine hK.out _ _ (.inr v9c) ?_
      clear hK K1
      try simp only [Act.put, List.setIfInBounds_toArray, List.set_cons_zero, List.set_cons_succ]
      refine Ordd.ready (rs := [10]) (by kernel_rfl) (by simp) ?_
      refine Nowd.cons (o := { dst := none, op := Op.store 49 (Operand.tmp 36) (Operand.tmp 35), type := 0, pos := "read.go:86", after := #[{ on := 9, ground := Ground.data }, { on := 8, ground := Ground.data }, { on := 8, ground := Ground.chain }, { on := 0, ground := Ground.phase }, { on := 1, ground := Ground.phase }, { on := 2, ground := Ground.phase }, { on := 3, ground := Ground.phase }, { on := 4, ground := Ground.phase }, { on := 5, ground := Ground.phase }, { on := 6, ground := Ground.phase }, { on := 7, ground := Ground.phase }, { on := 8, ground := Ground.phase }], guard := none }) rfl (fun K1 hK => ?_) Nowd.nil
      go_simp
      go_wp2_with fail
      refine hK.out _ _ (.inl (by kernel_rfl)) ?_
      clear hK K1
      try simp only [Act.put, List.setIfInBounds_toArray, List.set_cons_zero, List.set_cons_succ]
      refine Ordd.done (by kernel_rfl) ?_ _
      go_wp2
      go_roundw
      case rel => exact ⟨i + 1, by omega, by go_num, a9, c9, by
        rw [HNx2.out]
        have hl : (q.1 ++ [(q1.1, q2.1)]).length = q.1.length + 1 := by simp
        have h1 := HX10.out
        have h2 := HG10.out
        rw [hl] at h1 h2
        refine ⟨?_, ?_⟩
        · show Mt w0 w _ K N q2.2 (.int .i64 p0.1) (.int .i64 p1.1) (.int .i64 0) (.int .i64 0) (.int .i64 p2.1) (.int .i64 p3.1) (.int .i64 p4.1) (.int .i64 p5.1) (.bool (p6.1 == 1)) (.slice a9 (q.1 ++ [(q1.1, q2.1)]).length c9) (.slice none 0 0)
          rw [hl]
          exact h1
        · show Gz _ _ _ (.slice a9 (q.1 ++ [(q1.1, q2.1)]).length c9) _
          rw [hl]
          exact h2⟩
      case measure => simp [intOf]; omega
    · obtain rfl : i = n := by omega
      have hF2 := HFin.out
      have hrs := entsT_rest p7.2 i
      obtain ⟨q, hq⟩ : ∃ q, entsT i p7.2 = q := ⟨_, rfl⟩
      rw [hq] at HQ hrs
      obtain ⟨q2, hq2⟩ : ∃ p, txtS q.2 = p := ⟨_, rfl⟩
      have HT1 : Hid (∀ wx, Rv w0 wx K q.2 → Calls Try.prog 63 #[.pointer (some ⟨K, 0, none⟩)] wx (ByP w0 wx K q2.1 q2.2)) := fun wx z => by have := HTx.out wx q.2 hrs z; rw [hq2] at this; exact this
      have HF3 : Hid (∀ (w' : World) (e : Ending) (da : Option Addr) (dc : Nat), e = .returned (.agg #[.int .i64 p0.1, .int .i64 p1.1, .int .i64 0, .int .i64 0, .int .i64 p2.1, .int .i64 p3.1, .int .i64 p4.1, .int .i64 p5.1, .bool (p6.1 == 1), .slice ea q.1.length ec, .slice da q2.1.length dc]) → EnsV w' (fun g => w.heap.size ≤ g) ea ec q.1 → ReadsV w' (.slice da q2.1.length dc) q2.1 → PV (fun g => w.heap.size ≤ g) da q2.1.length → Rv w0 w' K q2.2 → Kx K w w' → ∃ ax, e = .returned (msA ax (msgT 0 0 s).1) ∧ MsV w' (fun g => w.heap.size ≤ g) ax (msgT 0 0 s).1 ∧ Rv w0 w' K (msgT 0 0 s).2 ∧ Kx K w w') := fun w' e da dc y1 y2 y3 y4 y5 y6 => hF2 w' e ea da ec dc q.1 q.2 q2.2 q2.1 hq hq2 y1 y2 y3 y4 y5 y6
      have hlw := HQ.out.m.lt
      have hNn := HQ.out.m.n
      have hNw : N < wr.heap.size := HQ.out.m.c.lt
      clear hF2 HFin hrs hq hq2 HE HTx
      go_wp2_with (go_at_call 63; refine (HT1.out _ HQ.out.m.rv).mono ?_; rintro e w2 ⟨da, dc, rfl, hd, hp, z1, z2⟩; have HX3 : Hid (Mt w0 w w2 K N q2.2 (.int .i64 p0.1) (.int .i64 p1.1) (.int .i64 0) (.int .i64 0) (.int .i64 p2.1) (.int .i64 p3.1) (.int .i64 p4.1) (.int .i64 p5.1) (.bool (p6.1 == 1)) (.slice ea q.1.length ec) (.slice none 0 0)) := HQ.out.m.num z1 z2; have HG3 : Hid (Gz w2 (N + 1) (fun g => N + 1 ≤ g) (.slice ea q.1.length ec) q.1) := HQ.out.g.kept (fun g hg hl => z2.k g hl (by have := hg; omega)); have HD : Hid (ReadsV w2 (.slice da q2.1.length dc) q2.1 ∧ PV (fun g => wr.heap.size ≤ g) da q2.1.length) := ⟨hd, hp⟩; clear hd hp z1 z2; obtain ⟨d0, d1, d2, d3, d4, d5, d6, d7, d8, d9, d10, df⟩ := HX3.out.c; obtain ⟨e0, e1, e2, e3, e4, e5, e6, e7, e8, e9, e10, ef⟩ := HX3.out.z)
      have HA : Hid (Mt w0 w (w2.setCell ⟨N, 10, none⟩ (.slice da q2.1.length dc)) K N q2.2 (.int .i64 p0.1) (.int .i64 p1.1) (.int .i64 0) (.int .i64 0) (.int .i64 p2.1) (.int .i64 p3.1) (.int .i64 p4.1) (.int .i64 p5.1) (.bool (p6.1 == 1)) (.slice ea q.1.length ec) (.slice da q2.1.length dc)) := HX3.out.put 10 _
      have hz2 := HX3.out.rv.z
      have HC := HA.out.z.boxed (.int .i64 p0.1) (.int .i64 p1.1) (.int .i64 0) (.int .i64 0) (.int .i64 p2.1) (.int .i64 p3.1) (.int .i64 p4.1) (.int .i64 p5.1) (.bool (p6.1 == 1)) (.slice ea q.1.length ec) (.slice da q2.1.length dc)
      have HBl : Below w.heap.size (w2.setCell ⟨N, 10, none⟩ (.slice da q2.1.length dc)) _ := Cl11.under (b := w.heap.size) (Below.refl _ _) (Nat.le_refl _) (v0 := .int .i64 p0.1) (v1 := .int .i64 p1.1) (v2 := .int .i64 0) (v3 := .int .i64 0) (v4 := .int .i64 p2.1) (v5 := .int .i64 p3.1) (v6 := .int .i64 p4.1) (v7 := .int .i64 p5.1) (v8 := .bool (p6.1 == 1)) (v9 := .slice ea q.1.length ec) (v10 := .slice da q2.1.length dc)
      have HRd := HA.out.rv.kept (HBl.mono (by omega)) (HBl.block K hlw)
      have HKx : Kx K w _ := ⟨HA.out.kx.b.trans (HBl.mono (by omega)), fun g hg hn => (HBl.block g hg).trans (HA.out.kx.k g hg hn)⟩
      have hkp : ∀ g, N + 1 ≤ g → _ := fun g (hg : N + 1 ≤ g) => (Cl11.other (b := w.heap.size) (v0 := .int .i64 p0.1) (v1 := .int .i64 p1.1) (v2 := .int .i64 0) (v3 := .int .i64 0) (v4 := .int .i64 p2.1) (v5 := .int .i64 p3.1) (v6 := .int .i64 p4.1) (v7 := .int .i64 p5.1) (v8 := .bool (p6.1 == 1)) (v9 := .slice ea q.1.length ec) (v10 := .slice da q2.1.length dc) (show g ≠ w.heap.size by omega)).trans (Below.heap_setCell w2 ⟨N, 10, none⟩ (.slice da q2.1.length dc) g (show g ≠ N by omega))
      have HEn := HG3.out.reads.2.kept (Q := fun g => w.heap.size ≤ g) (fun g hg _ => ⟨hkp g (by rcases hg with hg | hg <;> omega), by rcases hg with hg | hg <;> omega⟩)
      have HDn := bytes_kept HD.out.1 HD.out.2 (Q := fun g => w.heap.size ≤ g) (fun g hg _ => ⟨hkp g (by omega), by omega⟩)
      exact bodyPost_ret (resMsgT _ HC rfl) rfl (HF3.out _ _ da dc rfl HEn HDn.1 HDn.2 HRd HKx)
end
section
open Go.RowKit Pack
set_option linter.unusedVariables false
set_option linter.unusedSimpArgs false

/-- A packet that is read, in block N; its answer's place, in the block right above w; the reader, in block K. -/
structure Pt (w0 w wr : World) (K N : Nat) (s : St) (u0 u1 u2 : Value) : Prop where
  rv : Rv w0 wr K s
  kx : Kx K w wr
  lt : K < w.heap.size
  z : Cell3 wr w.heap.size (.int .i64 0) (.int .i64 0) (.slice none 0 0)
  n : w.heap.size < N
  c : Cell3 wr N u0 u1 u2
section
variable {w0 w wr w' : World} {K N : Nat} {s s' : St} {u0 u1 u2 : Value}
theorem Pt.num (h : Pt w0 w wr K N s u0 u1 u2) (hr : Rv w0 w' K s') (hx : Kx K wr w') : Pt w0 w w' K N s' u0 u1 u2 := by
  have h1 := h.lt
  have h2 := h.n
  exact ⟨hr, h.kx.trans hx, h.lt, h.z.kept (hx.k _ h.z.lt (by omega)), h.n, h.c.kept (hx.k _ h.c.lt (by omega))⟩
theorem Pt.below (h : Pt w0 w wr K N s u0 u1 u2) (hb : Below wr.heap.size wr w') : Pt w0 w w' K N s u0 u1 u2 := h.num (h.rv.below hb) (Kx.below hb (Nat.le_of_lt h.rv.lt))
theorem Pt.over (h : Pt w0 w wr K N s u0 u1 u2) (hb : Below (N + 1) wr w') : Pt w0 w w' K N s u0 u1 u2 := by
  have h1 := h.lt
  have h2 := h.n
  have h3 := h.rv.z
  exact ⟨h.rv.kept (hb.mono (by omega)) (hb.block _ (by omega)), ⟨h.kx.b.trans (hb.mono (by omega)), fun g hg hn => (hb.block _ (by omega)).trans (h.kx.k g hg hn)⟩, h.lt, h.z.kept (hb.block _ (by omega)), h.n, h.c.kept (hb.block _ (by omega))⟩
theorem Pt.put (h : Pt w0 w wr K N s u0 u1 u2) (j : Nat) (x : Value) : Pt w0 w (wr.setCell ⟨N, j, none⟩ x) K N s (if j = 0 then x else u0) (if j = 1 then x else u1) (if j = 2 then x else u2) := by
  have h1 := h.lt
  have h2 := h.n
  have h3 := h.rv.z
  have hb : Below N wr (wr.setCell ⟨N, j, none⟩ x) := (Below.refl _ _).setCell (p := ⟨N, j, none⟩) (Nat.le_refl _) _
  exact ⟨h.rv.kept (hb.mono (by omega)) (hb.block _ (by omega)), ⟨h.kx.b.trans (hb.mono (by omega)), fun g hg hn => (hb.block _ (by omega)).trans (h.kx.k g hg hn)⟩, h.lt, h.z.kept (hb.block _ (by omega)), h.n, h.c.put j x⟩
end
theorem Pt.first {w0 w w7 : World} {K : Nat} {s : St} (h : Rv w0 w7 K s) (hk : Kx K (w.alloc (Obj.cells #[.int .i64 0, .int .i64 0, .slice none 0 0] 24)) w7) (hlt : K < w.heap.size) (u0 u1 u2 : Value) : Pt w0 w (w7.alloc (Obj.cells #[u0, u1, u2] 24)) K w7.heap.size s u0 u1 u2 := by
  have hz := hk.b.size
  rw [size_alloc] at hz
  have ha : Below w7.heap.size w7 (w7.alloc (Obj.cells #[u0, u1, u2] 24)) := (Below.refl _ _).alloc (Nat.le_refl _) _
  have h0 : Below w.heap.size w (w.alloc (Obj.cells #[.int .i64 0, .int .i64 0, .slice none 0 0] 24)) := (Below.refl _ _).alloc (Nat.le_refl _) _
  have hZ : Cell3 (w.alloc (Obj.cells #[.int .i64 0, .int .i64 0, .slice none 0 0] 24)) w.heap.size (.int .i64 0) (.int .i64 0) (.slice none 0 0) := Cell3.new w _ _ _ _
  exact ⟨h.below ha, (Kx.below h0 (Nat.le_of_lt hlt)).trans (hk.trans (Kx.below ha (Nat.le_of_lt h.lt))), hlt, (hZ.kept (hk.k _ hZ.lt (by omega))).kept (ha.block _ (hZ.kept (hk.k _ hZ.lt (by omega))).lt), by omega, Cell3.new w7 _ _ _ _⟩
/-- What packet's loop keeps. -/
structure Qt (w0 w wr : World) (K N : Nat) (s : St) (ms : List Ms) (u0 u1 : Value) (ma : Option Addr) (mc : Nat) : Prop where
  p : Pt w0 w wr K N s u0 u1 (.slice ma ms.length mc)
  g : Gr msR 51 wr (N + 1) (fun g => N + 1 ≤ g) (.slice ma ms.length mc) ms
theorem resPkt {w : World} {Q : Nat} {v0 v1 v2 : Value} (tmps : Array Value) (h : Cell3 w Q v0 v1 v2) (h4 : tmps.getD 2 undef = .pointer (some ⟨Q, 0, none⟩)) : (results Try.f48 tmps).run Try.prog w = .ok (.agg #[v0, v1, v2]) w := by
  have h4' : tmps[2]?.getD undef = .pointer (some ⟨Q, 0, none⟩) := by simpa using h4
  simp [results, Try.results48, h4', loadPk h, asAddr]
set_option maxRecDepth 100000 in
set_option maxHeartbeats 4000000 in
theorem packet_next {w0 w : World} {K : Nat} {s : St} (h : Rv w0 w K s) (hl : s.1.length ≤ 100000000) : Calls Try.prog 48 #[.pointer (some ⟨K, 0, none⟩)] w fun e w' => ∃ a c, e = .returned (.agg #[.int .i64 (bodyT s).1.1, .int .i64 (bodyT s).1.2.1, .slice a (bodyT s).1.2.2.length c]) ∧ RwV msR w' (fun g => w.heap.size ≤ g) a c (bodyT s).1.2.2 ∧ Rv w0 w' K (bodyT s).2 ∧ Kx K w w' := by
  obtain ⟨p0, hp0⟩ : ∃ p, numS 7 s = p := ⟨_, rfl⟩
  obtain ⟨p1, hp1⟩ : ∃ p, numS 7 p0.2 = p := ⟨_, rfl⟩
  obtain ⟨p2, hp2⟩ : ∃ p, numS 256 p1.2 = p := ⟨_, rfl⟩
  have HN0 : Hid (∀ wx, Rv w0 wx K s → Calls Try.prog 56 #[.pointer (some ⟨K, 0, none⟩), .int .u64 7] wx fun e w' => e = .returned (.int .i64 p0.1) ∧ Rv w0 w' K p0.2 ∧ Kx K wx w') := fun wx q => by have := number_any 7 (by decide) q; rw [hp0] at this; exact this
  have HN1 : Hid (∀ wx, Rv w0 wx K p0.2 → Calls Try.prog 56 #[.pointer (some ⟨K, 0, none⟩), .int .u64 7] wx fun e w' => e = .returned (.int .i64 p1.1) ∧ Rv w0 w' K p1.2 ∧ Kx K wx w') := fun wx q => by have := number_any 7 (by decide) q; rw [hp1] at this; exact this
  have HN2 : Hid (∀ wx, Rv w0 wx K p1.2 → Calls Try.prog 56 #[.pointer (some ⟨K, 0, none⟩), .int .u64 256] wx fun e w' => e = .returned (.int .i64 p2.1) ∧ Rv w0 w' K p2.2 ∧ Kx K wx w') := fun wx q => by have := number_any 256 (by decide) q; rw [hp2] at this; exact this
  obtain ⟨n, hn⟩ : ∃ n : Nat, p2.1 = n := ⟨p2.1.toNat, by have := (numS_pos 256 p1.2).1; rw [hp2] at this; omega⟩
  have hn8 : n ≤ 256 := by have := (numS_pos 256 p1.2).2; rw [hp2, hn] at this; omega
  have e0 : bodyT s = ((p0.1, p1.1, (mssT p0.1 p1.1 n p2.2).1), (mssT p0.1 p1.1 n p2.2).2) := by
    unfold bodyT
    rw [hp0, hp1, hp2, hn, Int.toNat_natCast]
  have hlt := h.lt
  have hr2 : p2.2.1.length ≤ 100000000 := by
    have h0 := num_len 7 s
    have h1 := num_len 7 p0.2
    have h2 := num_len 256 p1.2
    rw [hp0] at h0
    rw [hp1] at h1
    rw [hp2] at h2
    omega
  have H0 : Hid (Rv w0 (w.alloc (Obj.cells #[.int .i64 0, .int .i64 0, .slice none 0 0] 24)) K s ∧ Kx K (w.alloc (Obj.cells #[.int .i64 0, .int .i64 0, .slice none 0 0] 24)) (w.alloc (Obj.cells #[.int .i64 0, .int .i64 0, .slice none 0 0] 24))) := ⟨h.below ((Below.refl _ _).alloc (Nat.le_refl _) _), Kx.refl _ _⟩
  have hi0 := numS_pos 7 s
  have hi1 := numS_pos 7 p0.2
  rw [hp0] at hi0
  rw [hp1] at hi1
  rw [e0]
  simp only
  generalize hf : p0.1 = f at *
  generalize ht : p1.1 = t at *
  have HMg : Hid (∀ wx st, st.1.length ≤ p2.2.1.length → Rv w0 wx K st → Calls Try.prog 57 #[.pointer (some ⟨K, 0, none⟩)] wx fun e w' => ∃ ax : Ax, e = .returned (.agg #[.int .i64 (msgT f t st).1.kind, .int .i64 (msgT f t st).1.grp, .int .i64 0, .int .i64 0, .int .i64 (msgT f t st).1.term, .int .i64 (msgT f t st).1.at_, .int .i64 (msgT f t st).1.att, .int .i64 (msgT f t st).1.commit, .bool (msgT f t st).1.ok, .slice ax.ea (msgT f t st).1.ents.length ax.ec, .slice ax.da (msgT f t st).1.data.length ax.dc]) ∧ MsV w' (fun g => wx.heap.size ≤ g) ax (msgT f t st).1 ∧ Rv w0 w' K (msgT f t st).2 ∧ Kx K wx w') := fun wx st q1 q2 => (msg_next q2 (by omega)).mono fun e w' ⟨ax, z1, z2, z3, z4⟩ => ⟨ax, z1, ⟨z2.e, z2.d, z2.dP⟩, z3, z4⟩
  have HFin : Hid (∀ (w' : World) (a : Option Addr) (c : Nat) (ms : List Ms) (s' : St), mssT f t n p2.2 = (ms, s') → RwV msR w' (fun g => w.heap.size ≤ g) a c ms → Rv w0 w' K s' → Kx K w w' → ∃ a' c', Ending.returned (.agg #[.int .i64 f, .int .i64 t, .slice a ms.length c]) = .returned (.agg #[.int .i64 f, .int .i64 t, .slice a' (mssT f t n p2.2).1.length c']) ∧ RwV msR w' (fun g => w.heap.size ≤ g) a' c' (mssT f t n p2.2).1 ∧ Rv w0 w' K (mssT f t n p2.2).2 ∧ Kx K w w') := fun w' a c ms s' q1 q2 q3 q4 => by rw [q1]; exact ⟨a, c, rfl, q2, q3, q4⟩
  have hmf : ∀ (fn : Fn) (first cap : Array Value) (w : World), (Instr.makeFunc fn first cap).run Try.prog w = .ok (.func fn first cap) w := fun _ _ _ _ => rfl
  rw [hn] at HN2
  clear hp0 hp1 hp2 e0 hn h
  go_enter Try.func48, Try.ntmps48
  go_wp2_with (first
      | (go_at_call 56; refine (HN2.out _ (H2.out.1.below ((Below.refl _ _).alloc (Nat.le_refl _) _))).mono ?_; rintro e w3 ⟨rfl, q1, q2⟩; have G3 : Hid (Pt w0 w w3 K w2.heap.size p2.2 (.int .i64 f) (.int .i64 t) (.slice none 0 0)) := (Pt.first H2.out.1 H2.out.2 hlt (.int .i64 f) (.int .i64 t) (.slice none 0 0)).num q1 q2; clear q1 q2)
      | (go_at_call 56; refine (HN1.out _ H1.out.1).mono ?_; rintro e w2 ⟨rfl, q1, q2⟩; have H2 : Hid (Rv w0 w2 K p1.2 ∧ Kx K (w.alloc (Obj.cells #[.int .i64 0, .int .i64 0, .slice none 0 0] 24)) w2) := ⟨q1, H1.out.2.trans q2⟩; clear q1 q2)
      | (go_at_call 56; refine (HN0.out _ H0.out.1).mono ?_; rintro e w1 ⟨rfl, q1, q2⟩; have H1 : Hid (Rv w0 w1 K p0.2 ∧ Kx K (w.alloc (Obj.cells #[.int .i64 0, .int .i64 0, .slice none 0 0] 24)) w1) := ⟨q1, H0.out.2.trans q2⟩; clear q1 q2))
  have hN0 : w.heap.size < w2.heap.size := by
    have := H2.out.2.b.size
    have h1 := size_alloc w (Obj.cells #[.int .i64 0, .int .i64 0, .slice none 0 0] 24)
    omega
  have HM : Hid (∃ ma mc, Qt w0 w w3 K w2.heap.size (mssT f t 0 p2.2).2 (mssT f t 0 p2.2).1 (.int .i64 f) (.int .i64 t) ma mc) := ⟨none, 0, G3.out, Gr.nil _ _ _ _ _⟩
  clear HN0 HN1 HN2 H0 H1 H2 G3 hmf
  generalize w2.heap.size = N at *
  go_loopw [15] (fun y wr => ∃ (i : Nat), i ≤ n ∧ y = .int .i64 i ∧ Hid (∃ ma mc, Qt w0 w wr K N (mssT f t i p2.2).2 (mssT f t i p2.2).1 (.int .i64 f) (.int .i64 t) ma mc)) (fun y _ => n - (intOf y).toNat)
  case atStart => exact ⟨0, Nat.zero_le _, rfl, HM.out⟩
  case round =>
    clear HM
    obtain ⟨i, hi, rfl, HR⟩ := hrel
    obtain ⟨ma, mc, HQ⟩ := HR.out
    have HQ : Hid (Qt w0 w wr K N (mssT f t i p2.2).2 (mssT f t i p2.2).1 (.int .i64 f) (.int .i64 t) ma mc) := HQ
    clear HR
    have hNw : N < wr.heap.size := HQ.out.p.c.lt
    by_cases hlt2 : i < n
    · have HNx2 : Hid (mssT f t (i + 1) p2.2 = ((mssT f t i p2.2).1 ++ [(msgT f t (mssT f t i p2.2).2).1], (msgT f t (mssT f t i p2.2).2).2)) := rfl
      have hln := mssT_len f t p2.2 i
      have hrs := mssT_rest f t p2.2 i
      generalize mssT f t i p2.2 = q at *
      have HC : Hid (Calls Try.prog 57 #[.pointer (some ⟨K, 0, none⟩)] wr fun e w' => ∃ ax : Ax, e = .returned (.agg #[.int .i64 (msgT f t q.2).1.kind, .int .i64 (msgT f t q.2).1.grp, .int .i64 0, .int .i64 0, .int .i64 (msgT f t q.2).1.term, .int .i64 (msgT f t q.2).1.at_, .int .i64 (msgT f t q.2).1.att, .int .i64 (msgT f t q.2).1.commit, .bool (msgT f t q.2).1.ok, .slice ax.ea (msgT f t q.2).1.ents.length ax.ec, .slice ax.da (msgT f t q.2).1.data.length ax.dc]) ∧ MsV w' (fun g => wr.heap.size ≤ g) ax (msgT f t q.2).1 ∧ Rv w0 w' K (msgT f t q.2).2 ∧ Kx K wr w') := HMg.out wr q.2 hrs HQ.out.p.rv
      have hxf : (msgT f t q.2).1.frm = f := rfl
      have hxt : (msgT f t q.2).1.to = t := rfl
      obtain ⟨x, hx⟩ : ∃ x, (msgT f t q.2).1 = x := ⟨_, rfl⟩
      obtain ⟨s5, hs5⟩ : ∃ x, (msgT f t q.2).2 = x := ⟨_, rfl⟩
      rw [hx] at hxf hxt HNx2
      rw [hx] at HC
      rw [hs5] at HC HNx2
      have HLn : Hid (q.1.length + [x].length ≤ 1048576) := by show _ ≤ _; simp only [List.length_cons, List.length_nil]; omega
      clear hx hs5 hln hrs HMg HFin
      go_wp2_with (go_at_call 57; refine HC.out.mono ?_; rintro e w5 ⟨ax, rfl, z0, z1, z2⟩; have HMs : Hid (MsV w5 (fun g => wr.heap.size ≤ g) ax x) := z0; have HP5 : Hid (Pt w0 w w5 K N s5 (.int .i64 f) (.int .i64 t) (.slice ma q.1.length mc)) := HQ.out.p.num z1 z2; have HK5 : Hid (wr.heap.size ≤ w5.heap.size ∧ ∀ g, g < wr.heap.size → g ≠ K → w5.heap[g]? = wr.heap[g]?) := ⟨z2.b.size, z2.k⟩; clear z0 z1 z2)
      have HPa : Hid (Pt w0 w (w5.alloc (Obj.cells #[.int .i64 x.kind, .int .i64 x.grp, .int .i64 0, .int .i64 0, .int .i64 x.term, .int .i64 x.at_, .int .i64 x.att, .int .i64 x.commit, .bool x.ok, .slice ax.ea x.ents.length ax.ec, .slice ax.da x.data.length ax.dc] 51)) K N s5 (.int .i64 f) (.int .i64 t) (.slice ma q.1.length mc)) := HP5.out.below ((Below.refl _ _).alloc (Nat.le_refl _) _)
      have HMc : Hid (Cl11 (w5.alloc (Obj.cells #[.int .i64 x.kind, .int .i64 x.grp, .int .i64 0, .int .i64 0, .int .i64 x.term, .int .i64 x.at_, .int .i64 x.att, .int .i64 x.commit, .bool x.ok, .slice ax.ea x.ents.length ax.ec, .slice ax.da x.data.length ax.dc] 51)) w5.heap.size (.int .i64 x.kind) (.int .i64 x.grp) (.int .i64 0) (.int .i64 0) (.int .i64 x.term) (.int .i64 x.at_) (.int .i64 x.att) (.int .i64 x.commit) (.bool x.ok) (.slice ax.ea x.ents.length ax.ec) (.slice ax.da x.data.length ax.dc)) := Cl11.new w5 _ _ _ _ _ _ _ _ _ _ _ _
      have hne : N ≠ w5.heap.size := by have := HK5.out.1; omega
      have hne2 : w5.heap.size ≠ N := fun e => hne e.symm
      obtain ⟨a0, a1, a2, af⟩ := HPa.out.c
      obtain ⟨b0, b1, b2, b3, b4, b5, b6, b7, b8, b9, b10, bf⟩ := HMc.out
      have HAl : Hid (Below w5.heap.size w5 (w5.alloc (Obj.cells #[.int .i64 x.kind, .int .i64 x.grp, .int .i64 0, .int .i64 0, .int .i64 x.term, .int .i64 x.at_, .int .i64 x.att, .int .i64 x.commit, .bool x.ok, .slice ax.ea x.ents.length ax.ec, .slice ax.da x.data.length ax.dc] 51))) := (Below.refl _ _).alloc (Nat.le_refl _) _
      generalize (w5.alloc _) = wa at *
      go_region_held3 (fun w' => w'.cell? ⟨N, 0, none⟩ = some (.int .i64 f) ∧ w'.cell? ⟨N, 1, none⟩ = some (.int .i64 t)) (go_keep) (fail)
      have hNz : N + 1 ≤ w5.heap.size := by have := HK5.out.1; omega
      have HBw : Hid (Below w5.heap.size wa ((wa.setCell ⟨w5.heap.size, 2, none⟩ (.int .i64 f)).setCell ⟨w5.heap.size, 3, none⟩ (.int .i64 t)).drew) := (((Below.refl _ _).setCell (p := ⟨w5.heap.size, 2, none⟩) (Nat.le_refl _) _).setCell (p := ⟨w5.heap.size, 3, none⟩) (Nat.le_refl _) _).drew
      have HMb : Hid (Cl11 ((wa.setCell ⟨w5.heap.size, 2, none⟩ (.int .i64 f)).setCell ⟨w5.heap.size, 3, none⟩ (.int .i64 t)).drew w5.heap.size (.int .i64 x.kind) (.int .i64 x.grp) (.int .i64 f) (.int .i64 t) (.int .i64 x.term) (.int .i64 x.at_) (.int .i64 x.att) (.int .i64 x.commit) (.bool x.ok) (.slice ax.ea x.ents.length ax.ec) (.slice ax.da x.data.length ax.dc)) := ((HMc.out.put 2 _).put 3 _).below ((Below.refl _ _).drew)
      generalize (World.setCell (World.setCell wa _ _) _ _).drew = wb at *
      have HPb : Hid (Pt w0 w wb K N s5 (.int .i64 f) (.int .i64 t) (.slice ma q.1.length mc)) := HPa.out.over (HBw.out.mono hNz)
      have HBb : Hid (Below w5.heap.size w5 wb) := HAl.out.trans HBw.out
      have HRw : Hid (RwV msR (wb.alloc (Obj.cells #[.int .i64 x.kind, .int .i64 x.grp, .int .i64 f, .int .i64 t, .int .i64 x.term, .int .i64 x.at_, .int .i64 x.att, .int .i64 x.commit, .bool x.ok, .slice ax.ea x.ents.length ax.ec, .slice ax.da x.data.length ax.dc] 51)) (fun g => wr.heap.size ≤ g) (some ⟨wb.heap.size, 0, none⟩) 1 [x]) := by
        have := RwV.one (r := msR) (t := 51) (P := fun g => wr.heap.size ≤ g) (us := msCells ax x) (w := wb) (x := x) rfl (Nat.le_trans HK5.out.1 HBb.out.size) ⟨ax, rfl, HMs.out.below HBb.out⟩
        unfold msCells at this
        rw [hxf, hxt] at this
        exact this
      have HGb : Hid (Gr msR 51 wb (N + 1) (fun g => N + 1 ≤ g) (.slice ma q.1.length mc) q.1) := by
        have hkb : ∀ g, N + 1 ≤ g → g < wr.heap.size → wb.heap[g]? = wr.heap[g]? := fun g hg hl => (HBb.out.block g (Nat.lt_of_lt_of_le hl HK5.out.1)).trans (HK5.out.2 g hl (by have := HQ.out.p.lt; have := HQ.out.p.n; omega))
        exact HQ.out.g.kept (fun g e => hkb g (HQ.out.g.own g e).1 (HQ.out.g.own g e).2) (fun g hs _ hl => ⟨hkb g hs hl, hs⟩)
      have HPp : Hid (∀ g, wr.heap.size ≤ g → N + 1 ≤ g ∧ (Value.slice ma q.1.length mc).ownBlock ≠ some g) := fun g hg => ⟨by omega, fun e => by have := HQ.out.g.own g e; omega⟩
      have hzb : N + 1 ≤ wb.heap.size := Nat.le_trans hNz HBb.out.size
      clear a0 a1 a2 af b0 b1 b2 b3 b4 b5 b6 b7 b8 b9 b10 bf HPa HMc HAl HBw HP5 HMs HC
      obtain ⟨a0, a1, a2, af⟩ := HPb.out.c
      obtain ⟨b0, b1, b2, b3, b4, b5, b6, b7, b8, b9, b10, bf⟩ := HMb.out
      have hlb : N < wb.heap.size := HPb.out.c.lt
      go_wp2_with (at_builtin; refine list_appR tyMs (by decide) (B := N + 1) (S := fun g => N + 1 ≤ g) (P := fun g => wr.heap.size ≤ g) (ts := q.1) (l := [x]) rfl (.tmp 26) (.tmp 28) rfl (HGb.out.below ((Below.refl _ _).alloc (Nat.le_refl _) _)) HRw.out rfl (fun g hg _ => HPp.out g hg) (Nat.le_trans hzb (le_alloc _ _)) rfl rfl HLn.out ?_; intro v9 w9 g1 g2 g3; obtain ⟨a9, c9, hv9⟩ := g1.form; subst hv9; have HG9 : Hid (Gr msR 51 w9 (N + 1) (fun g => N + 1 ≤ g) (.slice a9 (q.1 ++ [x]).length c9) (q.1 ++ [x])) := g1; have HX9 : Hid (Pt w0 w w9 K N s5 (.int .i64 f) (.int .i64 t) (.slice ma q.1.length mc)) := HPb.out.over (((Below.refl _ _).alloc hzb _).grown g2 (Nat.le_trans hzb (le_alloc _ _)) (fun k hk => (HGb.out.own k hk).1)); have HX10 : Hid (Pt w0 w (w9.setCell ⟨N, 2, none⟩ (.slice a9 (q.1 ++ [x]).length c9)) K N s5 (.int .i64 f) (.int .i64 t) (.slice a9 (q.1 ++ [x]).length c9)) := HX9.out.put 2 _; have HG10 : Hid (Gr msR 51 (w9.setCell ⟨N, 2, none⟩ (.slice a9 (q.1 ++ [x]).length c9)) (N + 1) (fun g => N + 1 ≤ g) (.slice a9 (q.1 ++ [x]).length c9) (q.1 ++ [x])) := HG9.out.kept (fun g e => Below.heap_setCell _ _ _ _ (show g ≠ N by have := (HG9.out.own g e).1; omega)) (fun g hs _ _ => ⟨Below.heap_setCell _ _ _ _ (show g ≠ N by have := hs; omega), hs⟩); clear g1 g2 g3; obtain ⟨j0, j1, j2, jf⟩ := HX9.out.c)
      go_roundw
      case rel => exact ⟨i + 1, by omega, by go_num, a9, c9, by
        rw [HNx2]
        have hl : (q.1 ++ [x]).length = q.1.length + 1 := by simp
        have h1 := HX10.out
        have h2 := HG10.out
        rw [hl] at h1 h2
        refine ⟨?_, ?_⟩
        · show Pt w0 w _ K N s5 (.int .i64 f) (.int .i64 t) (.slice a9 (q.1 ++ [x]).length c9)
          rw [hl]
          exact h1
        · show Gr _ _ _ _ _ (.slice a9 (q.1 ++ [x]).length c9) _
          rw [hl]
          exact h2⟩
      case measure => simp [intOf]; omega
    · obtain rfl : i = n := by omega
      obtain ⟨q, hq⟩ : ∃ q, mssT f t i p2.2 = q := ⟨_, rfl⟩
      rw [hq] at HQ
      have hlw := HQ.out.p.lt
      have hNn := HQ.out.p.n
      have hF2 := fun w' a c => HFin.out w' a c q.1 q.2 hq
      clear HFin HMg hq
      obtain ⟨a0, a1, a2, af⟩ := HQ.out.p.c
      obtain ⟨e0, e1, e2, ef⟩ := HQ.out.p.z
      go_wp2
      have HC := box_put HQ.out.p.z (Below.refl w.heap.size wr) (.int .i64 f) (.int .i64 t) (.slice ma q.1.length mc)
      have hk : ∀ g, g ≠ w.heap.size → (((wr.setCell ⟨w.heap.size, 0, none⟩ (.int .i64 f)).setCell ⟨w.heap.size, 1, none⟩ (.int .i64 t)).setCell ⟨w.heap.size, 2, none⟩ (.slice ma q.1.length mc)).heap[g]? = wr.heap[g]? := fun g hg => (Below.heap_setCell _ _ _ _ hg).trans ((Below.heap_setCell _ _ _ _ hg).trans (Below.heap_setCell _ _ _ _ hg))
      have hz2 := HQ.out.p.rv.z
      exact bodyPost_ret (resPkt _ HC.1 rfl) rfl (hF2 _ ma mc (HQ.out.g.reads.2.kept fun g hg _ => ⟨hk g (by rcases hg with hg | hg <;> omega), by rcases hg with hg | hg <;> omega⟩) (HQ.out.p.rv.kept (HC.2.mono (by omega)) (hk K (by omega))) ⟨HQ.out.p.kx.b.trans (HC.2.mono (by omega)), fun g hg hn => (hk g (by omega)).trans (HQ.out.p.kx.k g hg hn)⟩)
end
end Go.Proofs.Ytcaddedkodjgcaa
