/-
  The document's reader: its state in memory; Num, Text: contracts.
-/
import Derived.Test.YtcaddedkodjgcaaKpu
import Derived.Test.YtcaddedkodjgcaaPrg
namespace Go.Proofs.Ytcaddedkodjgcaa
open Go.RowKit Pack
set_option linter.unusedVariables false
set_option linter.unusedSimpArgs false

/-- Nothing that was there is turned but the block K. -/
structure Kx (K : Nat) (w w' : World) : Prop where
  b : Below K w w'
  k : ∀ g, g < w.heap.size → g ≠ K → w'.heap[g]? = w.heap[g]?
theorem Kx.refl (K : Nat) (w : World) : Kx K w w := ⟨Below.refl _ _, fun _ _ _ => rfl⟩
theorem Kx.trans {K : Nat} {w w' w'' : World} (h : Kx K w w') (h2 : Kx K w' w'') : Kx K w w'' := ⟨h.b.trans h2.b, fun g hg hn => (h2.k g (Nat.lt_of_lt_of_le hg h.b.size) hn).trans (h.k g hg hn)⟩
theorem Kx.below {K : Nat} {w w' : World} (h : Below w.heap.size w w') (hK : K ≤ w.heap.size) : Kx K w w' := ⟨h.mono hK, fun g hg _ => h.block g hg⟩
theorem Kx.set {K : Nat} {w : World} (j : Nat) (x : Value) : Kx K w (w.setCell ⟨K, j, none⟩ x) := ⟨(Below.refl _ _).setCell (p := ⟨K, j, none⟩) (Nat.le_refl _) _, fun g _ hn => Below.heap_setCell _ _ _ _ hn⟩
/-- A reader in block K, in bytes that were there before w0. -/
structure Rdg (w0 w : World) (K : Nat) (v : Value) (b : BB) (s : St) : Prop where
  r : ReadsV w0 v b
  l : Below w0.heap.size w0 w
  z : w0.heap.size ≤ K
  c : ∃ k : Nat, k ≤ b.length ∧ s.1 = b.drop k ∧ Cell3 w K v (.int .i64 k) (.int .i64 s.2)
theorem Rdg.lt {w0 w : World} {K : Nat} {v : Value} {b : BB} {s : St} (h : Rdg w0 w K v b s) : K < w.heap.size := by
  obtain ⟨_, _, _, h3⟩ := h.c
  exact h3.lt
theorem Rdg.below {w0 w w' : World} {K : Nat} {v : Value} {b : BB} {s : St} (h : Rdg w0 w K v b s) (hb : Below w.heap.size w w') : Rdg w0 w' K v b s := by
  obtain ⟨k, h1, h2, h3⟩ := h.c
  exact ⟨h.r, h.l.trans (hb.mono h.l.size), h.z, k, h1, h2, h3.kept (hb.block _ h3.lt)⟩
theorem Rdg.kept {w0 w w' : World} {K : Nat} {v : Value} {b : BB} {s : St} (h : Rdg w0 w K v b s) (hb : Below w0.heap.size w w') (hk : w'.heap[K]? = w.heap[K]?) : Rdg w0 w' K v b s := by
  obtain ⟨k, h1, h2, h3⟩ := h.c
  exact ⟨h.r, h.l.trans hb, h.z, k, h1, h2, h3.kept hk⟩
theorem Rdg.reads {w0 w : World} {K : Nat} {v : Value} {b : BB} {s : St} (h : Rdg w0 w K v b s) : ReadsV w v b := h.r.below h.l
theorem Rdg.to {w0 w : World} {K : Nat} {v : Value} {b : BB} {s s' : St} (h : Rdg w0 w K v b s) {k : Nat} {e : Int} (hc : Cell3 w K v (.int .i64 k) (.int .i64 e)) {J : Nat} (hj : k + J ≤ b.length) (hs : s' = (b.drop (k + J), e)) {x : Int} (hx : x = (k : Int) + J) : Rdg w0 (w.setCell ⟨K, 1, none⟩ (.int .i64 x)) K v b s' ∧ Kx K w (w.setCell ⟨K, 1, none⟩ (.int .i64 x)) := by
  subst hs
  refine ⟨⟨h.r, h.l.trans ((Kx.set 1 _).b.mono h.z), h.z, k + J, hj, rfl, ?_⟩, Kx.set 1 _⟩
  have := hc.put 1 (.int .i64 x)
  rw [hx] at this ⊢
  rw [show (((k + J : Nat)) : Int) = (k : Int) + J by omega]
  exact this
theorem Rdg.err {w0 w : World} {K : Nat} {v : Value} {b : BB} {s s' : St} (h : Rdg w0 w K v b s) {k : Nat} {e : Int} (hc : Cell3 w K v (.int .i64 k) (.int .i64 e)) (hk : k ≤ b.length) {x : Int} (hs : s' = (b.drop k, x)) : Rdg w0 (w.setCell ⟨K, 2, none⟩ (.int .i64 x)) K v b s' ∧ Kx K w (w.setCell ⟨K, 2, none⟩ (.int .i64 x)) := by
  subst hs
  refine ⟨⟨h.r, h.l.trans ((Kx.set 2 _).b.mono h.z), h.z, k, hk, rfl, ?_⟩, Kx.set 2 _⟩
  exact hc.put 2 (.int .i64 x)
/-- Some draws later. -/
theorem Rdg.drawn {w0 w w' : World} {K : Nat} {v : Value} {b : BB} {s : St} (h : Rdg w0 w' K v b s ∧ Kx K w w') (n : Nat) : Rdg w0 (w'.drewN n) K v b s ∧ Kx K w (w'.drewN n) := ⟨h.1.below (below_drewN (Below.refl _ _) n), h.2.trans (Kx.below (below_drewN (Below.refl _ _) n) (Nat.le_of_lt h.1.lt))⟩
/-- A slice from a place on, wherever its bytes are. -/
def Tl (v u : Value) (b : BB) (k : Nat) : Prop := ∀ w, ReadsV w v b → ReadsV w u (b.drop k)
theorem tl_mid {a : Option Addr} {n c k : Nat} {b : BB} (hk : k ≤ n) (hc : ¬ c = k) : Tl (.slice a n c) (.slice (a.map (fun x => x.add k)) (n - k) (c - k)) b k := fun w h => tailA h hk hc
theorem tl_end {a : Option Addr} {n c k : Nat} {b : BB} (hc : c ≤ k) : Tl (.slice a n c) (.slice a 0 0) b k := fun w h => tailB h hc
set_option maxRecDepth 100000 in
set_option maxHeartbeats 800000 in
theorem Num_bad {w0 w : World} {K : Nat} {v : Value} {b : BB} {s : St} (top : Nat) (h : Rdg w0 w K v b s) (hs : ¬ s.2 = 0) : Calls Try.prog 35 #[.pointer (some ⟨K, 0, none⟩), .int .u64 top] w fun e w' => e = .returned (.int .i64 (numS top s).1) ∧ Rdg w0 w' K v b (numS top s).2 ∧ Kx K w w' := by
  have e0 : numS top s = (0, s) := by unfold numS; rw [if_neg hs]
  rw [e0]
  have HR : Hid (Rdg w0 w K v b s) := h
  obtain ⟨k, h1, h2, c0, c1, c2, cf⟩ := h.c
  have y1 : (s.2 == 0) = false := beq_eq_false_iff_ne.2 hs
  have y2 : (s.2 != 0) = true := by rw [bne, y1]; rfl
  clear h h1 h2 hs e0
  generalize s.2 = er at *
  go_enter Try.func35, Try.ntmps35
  go_wp2
  go_ret
  exact ⟨rfl, HR.out, Kx.refl _ _⟩
set_option maxRecDepth 100000 in
set_option maxHeartbeats 800000 in
/-- Read with what ReadUint answers. -/
theorem Num_go {w0 w : World} {K : Nat} {v : Value} {b : BB} {s : St} (top : Nat) (ht : top < 9223372036854775808) (h : Rdg w0 w K v b s) (hs : s.2 = 0) {N : Nat} {J : Nat} {C : Int} (hu : ∀ wx u, ReadsV wx u s.1 → Calls Try.prog 49 #[u] wx fun e w' => e = .returned (.tuple #[.int .u64 N, .int .i64 J, .int .i64 C]) ∧ w' = wx)
    (hN : N < 18446744073709551616) {r : Int} {s' : St} (hq : (C = 0 ∧ N ≤ top ∧ J ≤ s.1.length ∧ r = N ∧ s' = (s.1.drop J, 0)) ∨ (C = 0 ∧ top < N ∧ r = 0 ∧ s' = (s.1, 6)) ∨ (¬ C = 0 ∧ r = 0 ∧ s' = (s.1, C))) :
    Calls Try.prog 35 #[.pointer (some ⟨K, 0, none⟩), .int .u64 top] w fun e w' => e = .returned (.int .i64 r) ∧ Rdg w0 w' K v b s' ∧ Kx K w w' := by
  obtain ⟨k, h1, h2, c0, c1, c2, cf⟩ := h.c
  obtain ⟨a, c, rfl, hnil, hlc, hcm, hrd⟩ := h.reads
  have hlt := h.lt
  have hcm2 : c ≤ 9223372036854775807 := hcm
  have HT : Hid (∀ x : Int, k + J ≤ b.length → C = 0 → s' = (b.drop (k + J), 0) → x = (k : Int) + J → Rdg w0 (w.setCell ⟨K, 1, none⟩ (.int .i64 x)) K (.slice a b.length c) b s' ∧ Kx K w (w.setCell ⟨K, 1, none⟩ (.int .i64 x))) := fun x q1 q2 q3 q4 => h.to (k := k) (e := 0) ⟨c0, c1, by rw [hs] at c2; exact c2, cf⟩ q1 q3 q4
  have HX : Hid (∀ x : Int, s' = (b.drop k, x) → Rdg w0 (w.setCell ⟨K, 2, none⟩ (.int .i64 x)) K (.slice a b.length c) b s' ∧ Kx K w (w.setCell ⟨K, 2, none⟩ (.int .i64 x))) := fun x q => h.err (k := k) (e := 0) ⟨c0, c1, by rw [hs] at c2; exact c2, cf⟩ h1 q
  have HR : Hid (ReadsV w (.slice a b.length c) b) := h.reads
  have HU : Hid (∀ wx u, ReadsV wx u (b.drop k) → Calls Try.prog 49 #[u] wx fun e w' => e = .returned (.tuple #[.int .u64 N, .int .i64 J, .int .i64 C]) ∧ w' = wx) := fun wx u q => hu wx u (by rw [h2]; exact q)
  rw [hs] at c2
  have hlen : s.1.length = b.length - k := by rw [h2, List.length_drop]
  have hdr : (s.1.drop J, (0 : Int)) = (b.drop (k + J), 0) := by rw [h2, List.drop_drop]
  rw [h2] at hq
  have hcases : c = k ∨ ¬ c = k := by omega
  have HTail : Hid (∀ u, (c = k ∧ (∃ a' m, m = 0 ∧ u = .slice a' m 0) ∨ (¬ c = k ∧ u = .slice (a.map (fun x => x.add k)) (b.length - k) (c - k))) → ∀ wx, ReadsV wx (.slice a b.length c) b → ReadsV wx u (b.drop k)) := fun u hu wx hr => by
    rcases hu with ⟨q1, a', m, rfl, rfl⟩ | ⟨q1, rfl⟩
    · exact tailB hr (by omega)
    · exact tailA hr h1 q1
  have hzz : w0.heap.size ≤ K := h.z
  clear hu h
  rcases hq with ⟨rfl, q1, q2, rfl, rfl⟩ | ⟨rfl, q1, rfl, rfl⟩ | ⟨q1, rfl, rfl⟩
  · have HF : Hid (∀ x : Int, x = (k : Int) + J → Rdg w0 (w.setCell ⟨K, 1, none⟩ (.int .i64 x)) K (.slice a b.length c) b (List.drop J (List.drop k b), 0) ∧ Kx K w (w.setCell ⟨K, 1, none⟩ (.int .i64 x))) := fun x q => HT.out x (by rw [List.length_drop] at q2; omega) rfl (by rw [List.drop_drop]) q
    have hJ : J ≤ b.length - k := by rw [List.length_drop] at q2; exact q2
    have y1 : decide ((top : Int) < N) = false := decide_eq_false (by omega)
    have hl2 : b.length ≤ c := hlc
    clear HT HX hs hnil hrd hdr hlen hlc q2
    generalize hn : b.length = n at *
    generalize (List.drop J (List.drop k b), (0 : Int)) = sf at *
    rcases hcases with hck | hck
    all_goals (
      go_enter Try.func35, Try.ntmps35
      go_wp2
      go_region_held3 (fun w' => w'.cell? ⟨K, 0, none⟩ = some (.slice a n c) ∧ w'.cell? ⟨K, 1, none⟩ = some (.int .i64 k)) (go_keep) (first
        | (go_at_call 49; refine (HU.out _ _ (HTail.out _ (by first | exact .inr ⟨hck, rfl⟩ | exact .inl ⟨hck, _, _, by omega, rfl⟩) _ (HR.out.below (Below.refl _ _).drew))).mono ?_; rintro e w1 ⟨rfl, rfl⟩))
      go_wp2
      go_ret
      exact ⟨rfl, Rdg.drawn (HF.out _ (by go_num)) 1⟩)
  · have HF : Hid (Rdg w0 (w.setCell ⟨K, 2, none⟩ (.int .i64 6)) K (.slice a b.length c) b (List.drop k b, 6) ∧ Kx K w (w.setCell ⟨K, 2, none⟩ (.int .i64 6))) := HX.out 6 rfl
    have y1 : decide ((top : Int) < N) = true := decide_eq_true (by omega)
    have hl2 : b.length ≤ c := hlc
    clear HT HX hs hnil hrd hdr hlen hlc
    generalize hn : b.length = n at *
    generalize (List.drop k b, (6 : Int)) = sf at *
    rcases hcases with hck | hck
    all_goals (
      go_enter Try.func35, Try.ntmps35
      go_wp2
      go_region_held3 (fun w' => w'.cell? ⟨K, 0, none⟩ = some (.slice a n c) ∧ w'.cell? ⟨K, 1, none⟩ = some (.int .i64 k)) (go_keep) (first
        | (go_at_call 49; refine (HU.out _ _ (HTail.out _ (by first | exact .inr ⟨hck, rfl⟩ | exact .inl ⟨hck, _, _, by omega, rfl⟩) _ (HR.out.below (Below.refl _ _).drew))).mono ?_; rintro e w1 ⟨rfl, rfl⟩))
      go_wp2
      go_ret
      exact ⟨rfl, Rdg.drawn HF.out 1⟩)
  · have HF : Hid (Rdg w0 (w.setCell ⟨K, 2, none⟩ (.int .i64 C)) K (.slice a b.length c) b (List.drop k b, C) ∧ Kx K w (w.setCell ⟨K, 2, none⟩ (.int .i64 C))) := HX.out C rfl
    have y1 : (C == 0) = false := beq_eq_false_iff_ne.2 q1
    have y2 : (C != 0) = true := by rw [bne, y1]; rfl
    have hl2 : b.length ≤ c := hlc
    clear HT HX hs hnil hrd hdr hlen hlc q1
    generalize hn : b.length = n at *
    generalize (List.drop k b, C) = sf at *
    rcases hcases with hck | hck
    all_goals (
      go_enter Try.func35, Try.ntmps35
      go_wp2
      go_region_held3 (fun w' => w'.cell? ⟨K, 0, none⟩ = some (.slice a n c) ∧ w'.cell? ⟨K, 1, none⟩ = some (.int .i64 k)) (go_keep) (first
        | (go_at_call 49; refine (HU.out _ _ (HTail.out _ (by first | exact .inr ⟨hck, rfl⟩ | exact .inl ⟨hck, _, _, by omega, rfl⟩) _ (HR.out.below (Below.refl _ _).drew))).mono ?_; rintro e w1 ⟨rfl, rfl⟩))
      go_wp2
      go_ret
      exact ⟨rfl, Rdg.drawn HF.out 1⟩)
/-- The document's next number. -/
theorem Num_any {w0 w : World} {K : Nat} {v : Value} {b : BB} {s : St} (top : Nat) (ht : top < 9223372036854775808) (h : Rdg w0 w K v b s) : Calls Try.prog 35 #[.pointer (some ⟨K, 0, none⟩), .int .u64 top] w fun e w' => e = .returned (.int .i64 (numS top s).1) ∧ Rdg w0 w' K v b (numS top s).2 ∧ Kx K w w' := by
  by_cases hs : s.2 = 0
  · cases hr : rd 0 s.1 with
    | inl k =>
      obtain ⟨_, h2, _, _, h5⟩ := rd0_ok hr
      refine Num_go top ht h hs (N := val (s.1.take k)) (J := k) (C := 0) (fun wx u hu => rreadUint_ok _ _ k _ _ hu hr rfl) h5 ?_
      unfold numS
      rw [if_pos hs, hr]
      simp only
      by_cases hn : top < val (s.1.take k)
      · rw [if_pos hn]; refine .inr (.inl ⟨?_, hn, ?_, ?_⟩) <;> first | trivial | rfl
      · rw [if_neg hn]; refine .inl ⟨?_, by omega, h2, ?_, ?_⟩ <;> first | trivial | rfl
    | inr x =>
      have hne : ∀ k, rd 0 s.1 ≠ .ok k := fun k e => by rw [hr] at e; cases e
      refine Num_go top ht h hs (N := 0) (J := 0) (C := code (rd 0 s.1)) (fun wx u hu => rreadUint_err _ _ _ _ hu hne rfl) (by omega) (.inr (.inr ?_))
      unfold numS
      rw [if_pos hs, hr]
      cases x
      · exact ⟨by decide, rfl, rfl⟩
      · exact ⟨by decide, rfl, rfl⟩
  · exact Num_bad top h hs
end Go.Proofs.Ytcaddedkodjgcaa
