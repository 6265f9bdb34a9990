/-
  The program's reader: its state in memory; number, bytes: contracts.
-/
import Derived.Test.YtcaddedkodjgcaaKqg
import Derived.Test.YtcaddedkodjgcaaKrd
import Derived.Test.YtcaddedkodjgcaaKrr
namespace Go.Proofs.Ytcaddedkodjgcaa
section
open Go.RowKit Pack
set_option linter.unusedVariables false
set_option linter.unusedSimpArgs false

set_option maxRecDepth 100000 in
theorem readBytes_okN (v : Value) (l : List (BitVec 8)) (k m : Nat) (w : World) (h : ReadsV w v l) (hk : rd 0 l = .ok k) (hm : val (l.take k) = m) (hlt : m ≤ l.length - k) :
    Calls Try.prog 64 #[v] w fun e w' => ∃ sv rv, e = .returned (.tuple #[sv, rv, .int .i64 0]) ∧ ReadsV w' sv ((l.drop k).take m) ∧ ReadsV w' rv (l.drop (k + m)) ∧ Below w.heap.size w w' ∧ Near v rv ∧ Near v sv := by
  have HR : Hid (ReadsV w v l) := h
  have HK : Hid (rd 0 l = .ok k) := hk
  have HM : Hid (val (l.take k) = m) := hm
  have hm64 : m < 18446744073709551616 := by rw [← hm]; exact (rd0_ok hk).2.2.2.2
  obtain ⟨n, hn⟩ : ∃ n, l.length - k = n := ⟨_, rfl⟩
  have HN : Hid (l.length - k = n) := hn
  have hnm : n ≤ 9223372036854775807 := by obtain ⟨_, _, _, _, _, _, hr⟩ := h; have := hr.1; rw [maxLen_eq] at this; omega
  have hlt' : m ≤ n := by omega
  clear h hk hm hlt hn
  go_enter Try.func64, Try.ntmps64
  go_wp2_with (go_at_call 62; refine (readUint_ok _ l k m _ HR.out HK.out HM.out).mono ?_; rw [HN.out]; rintro e w' ⟨a, c, rfl, hr, hB, hNr⟩)
  have HNr : Hid (Near v (.slice a n c)) := hNr
  clear hNr
  have hnc : n ≤ c := hr.cap
  have hmc : m ≤ c := by omega
  have HQ : Hid (ReadsV w' (.slice a n c) (l.drop k)) := hr
  clear hr
  go_region
  go_wp2
  · go_ret3
    exact ⟨_, _, rfl, cut_head HQ.out hlt', cut_tail0 HQ.out (by assumption), hB.drew, HNr.out.trans (near_cut _ _ _ _ _), HNr.out.trans (near_cut _ _ _ _ _)⟩
  · go_ret3
    exact ⟨_, _, rfl, cut_head HQ.out hlt', cut_tail HQ.out hlt' (by assumption), hB.drew, HNr.out.trans (near_add _ _ _ _ _ _ (fun x => add_block x m)), HNr.out.trans (near_cut _ _ _ _ _)⟩


/-- A slice that reads as l and lies below B. -/
structure Lo (w : World) (B : Nat) (u : Value) (l : BB) : Prop where
  r : ReadsV w u l
  b : ∀ x m d, u = .slice (some x) m d → x.block < B
theorem Lo.kept {w w' : World} {B : Nat} {u : Value} {l : BB} (h : Lo w B u l) (hk : ∀ g, g < B → w'.heap[g]? = w.heap[g]?) : Lo w' B u l := by
  obtain ⟨a, c, e, _⟩ := id h.r
  subst e
  exact ⟨readsV_kept h.r fun h0 x hx => hk _ (h.b x _ _ (by rw [hx])), h.b⟩
theorem Lo.near {w w' : World} {B : Nat} {u v : Value} {l l' : BB} (h : Lo w B u l) (hr : ReadsV w' v l') (hn : Near u v) : Lo w' B v l' := ⟨hr, fun x m d e => hn (fun g => g < B) (fun a n c q => h.b a n c q) x m d e⟩
theorem Lo.nil (w : World) (B : Nat) : Lo w B (.slice none 0 0) [] := ⟨ReadsV.nil w, fun x m d e => by cases e⟩
/-- The program's reader in block K, in bytes that were there before w0. What is left says nothing behind an error. -/
structure Rv (w0 w : World) (K : Nat) (s : St) : Prop where
  l : Below w0.heap.size w0 w
  z : w0.heap.size ≤ K
  c : ∃ u, Cell2 w K u (.int .i64 s.2) ∧ (∃ a n c, u = .slice a n c) ∧ (s.2 = 0 → Lo w w0.heap.size u s.1)
theorem Rv.lt {w0 w : World} {K : Nat} {s : St} (h : Rv w0 w K s) : K < w.heap.size := by
  obtain ⟨_, h3, _⟩ := h.c
  exact h3.lt
theorem Rv.kept {w0 w w' : World} {K : Nat} {s : St} (h : Rv w0 w K s) (hb : Below w0.heap.size w w') (hk : w'.heap[K]? = w.heap[K]?) : Rv w0 w' K s := by
  obtain ⟨u, h1, h2, h3⟩ := h.c
  exact ⟨h.l.trans hb, h.z, u, h1.kept hk, h2, fun q => (h3 q).kept fun g hg => hb.block g hg⟩
theorem Rv.below {w0 w w' : World} {K : Nat} {s : St} (h : Rv w0 w K s) (hb : Below w.heap.size w w') : Rv w0 w' K s := h.kept (hb.mono h.l.size) (hb.block K h.lt)
/-- Both cells put anew. -/
theorem Rv.to {w0 w w' : World} {K : Nat} {s : St} (h : Rv w0 w K s) (hb : Below w.heap.size w w') {u : Value} {l : BB} {er : Int} (hu : ∃ a n c, u = .slice a n c) (hl : er = 0 → Lo w' w0.heap.size u l) : Rv w0 ((w'.setCell ⟨K, 0, none⟩ u).setCell ⟨K, 1, none⟩ (.int .i64 er)) K (l, er) ∧ Kx K w ((w'.setCell ⟨K, 0, none⟩ u).setCell ⟨K, 1, none⟩ (.int .i64 er)) := by
  have h' := h.below hb
  obtain ⟨u0, h1, _, _⟩ := h'.c
  have hk : ∀ g, g ≠ K → ((w'.setCell ⟨K, 0, none⟩ u).setCell ⟨K, 1, none⟩ (.int .i64 er)).heap[g]? = w'.heap[g]? := fun g hg => (Below.heap_setCell _ _ _ _ hg).trans (Below.heap_setCell _ _ _ _ hg)
  have hz := h.z
  refine ⟨⟨(h'.l.setCell (p := ⟨K, 0, none⟩) h.z _).setCell (p := ⟨K, 1, none⟩) h.z _, h.z, u, ⟨cell_set (cell_set h1.c0), cell_set (cell_set h1.c1), fun i => by simp only [World.frozen?_setCell]; exact h1.free i⟩, hu, fun q => (hl q).kept fun g hg => hk g (by omega)⟩, ?_⟩
  exact (Kx.below hb (Nat.le_of_lt h.lt)).trans ((Kx.set 0 _).trans (Kx.set 1 _))
set_option maxRecDepth 100000 in
set_option maxHeartbeats 800000 in
theorem number_bad {w0 w : World} {K : Nat} {s : St} (top : Nat) (h : Rv w0 w K s) (hs : ¬ s.2 = 0) : Calls Try.prog 56 #[.pointer (some ⟨K, 0, none⟩), .int .u64 top] w fun e w' => e = .returned (.int .i64 (numS top s).1) ∧ Rv w0 w' K (numS top s).2 ∧ Kx K w w' := by
  have e0 : numS top s = (0, s) := by unfold numS; rw [if_neg hs]
  rw [e0]
  have HR : Hid (Rv w0 w K s) := h
  obtain ⟨u, ⟨c0, c1, cf⟩, _, _⟩ := h.c
  have y1 : (s.2 == 0) = false := beq_eq_false_iff_ne.2 hs
  have y2 : (s.2 != 0) = true := by rw [bne, y1]; rfl
  clear h hs e0
  generalize s.2 = er at *
  go_enter Try.func56, Try.ntmps56
  go_wp2
  go_ret
  exact ⟨rfl, HR.out, Kx.refl _ _⟩
set_option maxRecDepth 100000 in
set_option maxHeartbeats 800000 in
/-- The number is read: it fits or not. -/
theorem number_ok {w0 w : World} {K : Nat} {s : St} (top : Nat) (ht : top < 9223372036854775808) (h : Rv w0 w K s) (hs : s.2 = 0) {k : Nat} (hr : rd 0 s.1 = .ok k) : Calls Try.prog 56 #[.pointer (some ⟨K, 0, none⟩), .int .u64 top] w fun e w' => e = .returned (.int .i64 (numS top s).1) ∧ Rv w0 w' K (numS top s).2 ∧ Kx K w w' := by
  have HR : Hid (Rv w0 w K s) := h
  obtain ⟨u, ⟨c0, c1, cf⟩, _, hlo⟩ := h.c
  have HLo : Hid (Lo w w0.heap.size u s.1) := hlo hs
  have hlt := h.lt
  obtain ⟨m, hm⟩ : ∃ m, val (s.1.take k) = m := ⟨_, rfl⟩
  have hm64 : m < 18446744073709551616 := by rw [← hm]; exact (rd0_ok hr).2.2.2.2
  have e0 : numS top s = if top < m then (0, (s.1, 6)) else ((m : Int), (s.1.drop k, 0)) := by
    unfold numS
    rw [if_pos hs, hr]
    simp only [hm]
  have HU : Hid (Calls Try.prog 62 #[u] w fun e w' => ∃ a n c, e = .returned (.tuple #[.int .u64 m, .slice a n c, .int .i64 0]) ∧ Hid (Lo w' w0.heap.size (.slice a n c) (s.1.drop k) ∧ Below w.heap.size w w')) := (readUint_ok u s.1 k m w HLo.out.r hr hm).mono fun e w' ⟨a, c, z1, z2, z3, z4⟩ => ⟨a, _, c, z1, HLo.out.near z2 z4, z3⟩
  have HC : Hid (∀ w', Below w.heap.size w w' → Cell2 w' K u (.int .i64 0)) := fun w' q => by
    have := h.c
    have hc2 : Cell2 w K u (.int .i64 0) := ⟨c0, by rw [← hs]; exact c1, cf⟩
    exact hc2.below q
  rw [e0]
  rw [hs] at c1
  clear h hs hlo hm hr e0
  by_cases hq : top < m
  · have HF : Hid (∀ w' a n c, Below w.heap.size w w' → Rv w0 ((w'.setCell ⟨K, 0, none⟩ (.slice a n c)).setCell ⟨K, 1, none⟩ (.int .i64 6)) K (s.1, 6) ∧ Kx K w ((w'.setCell ⟨K, 0, none⟩ (.slice a n c)).setCell ⟨K, 1, none⟩ (.int .i64 6))) := fun w' a n c q => HR.out.to q ⟨a, n, c, rfl⟩ (fun e => by cases e)
    rw [if_pos hq]
    have d1 : decide ((top : Int) < (m : Int)) = true := decide_eq_true (by omega)
    clear HR HLo
    go_enter Try.func56, Try.ntmps56
    go_wp2_with (go_at_call 62; refine HU.out.mono ?_; rintro e w1 ⟨a1, n1, k1, rfl, HQ⟩; obtain ⟨d0, d1, df⟩ := HC.out w1 HQ.out.2)
    go_ret
    exact ⟨rfl, HF.out _ _ _ _ HQ.out.2⟩
  · have HF : Hid (∀ w' a n c, Below w.heap.size w w' → Lo w' w0.heap.size (.slice a n c) (s.1.drop k) → Rv w0 ((w'.setCell ⟨K, 0, none⟩ (.slice a n c)).setCell ⟨K, 1, none⟩ (.int .i64 0)) K (s.1.drop k, 0) ∧ Kx K w ((w'.setCell ⟨K, 0, none⟩ (.slice a n c)).setCell ⟨K, 1, none⟩ (.int .i64 0))) := fun w' a n c q q2 => HR.out.to q ⟨a, n, c, rfl⟩ (fun e => q2)
    rw [if_neg hq]
    have d1 : decide ((top : Int) < (m : Int)) = false := decide_eq_false (by omega)
    have hm63 : (m : Int) < 9223372036854775808 := by omega
    clear HR HLo
    go_enter Try.func56, Try.ntmps56
    go_wp2_with (go_at_call 62; refine HU.out.mono ?_; rintro e w1 ⟨a1, n1, k1, rfl, HQ⟩; obtain ⟨d0, d1, df⟩ := HC.out w1 HQ.out.2)
    go_ret
    exact ⟨by first | rfl | (show Ending.returned _ = Ending.returned _; congr 2; go_num), HF.out _ _ _ _ HQ.out.2 HQ.out.1⟩
set_option maxRecDepth 100000 in
set_option maxHeartbeats 800000 in
theorem number_err {w0 w : World} {K : Nat} {s : St} (top : Nat) (h : Rv w0 w K s) (hs : s.2 = 0) {x : Bool} (hr : rd 0 s.1 = .inr x) : Calls Try.prog 56 #[.pointer (some ⟨K, 0, none⟩), .int .u64 top] w fun e w' => e = .returned (.int .i64 (numS top s).1) ∧ Rv w0 w' K (numS top s).2 ∧ Kx K w w' := by
  have HR : Hid (Rv w0 w K s) := h
  obtain ⟨u, ⟨c0, c1, cf⟩, _, hlo⟩ := h.c
  have HLo : Hid (Lo w w0.heap.size u s.1) := hlo hs
  have hlt := h.lt
  have hne : ∀ k, rd 0 s.1 ≠ .ok k := fun k e => by rw [hr] at e; cases e
  obtain ⟨cd, hcd⟩ : ∃ cd, code (rd 0 s.1) = cd := ⟨_, rfl⟩
  have hcd2 := code_ne hne
  rw [hcd] at hcd2
  have e0 : numS top s = (0, (s.1, cd)) := by
    unfold numS
    rw [if_pos hs, ← hcd, hr]
    cases x <;> rfl
  have HU : Hid (Calls Try.prog 62 #[u] w fun e w' => e = .returned (.tuple #[.int .u64 0, .slice none 0 0, .int .i64 cd]) ∧ Hid (Below w.heap.size w w')) := (readUint_err u s.1 cd w HLo.out.r hne hcd).mono fun e w' ⟨z1, z2⟩ => ⟨z1, z2⟩
  have HC : Hid (∀ w', Below w.heap.size w w' → Cell2 w' K u (.int .i64 0)) := fun w' q => by
    have hc2 : Cell2 w K u (.int .i64 0) := ⟨c0, by rw [← hs]; exact c1, cf⟩
    exact hc2.below q
  rw [e0]
  rw [hs] at c1
  have HF : Hid (∀ w' , Below w.heap.size w w' → Rv w0 ((w'.setCell ⟨K, 0, none⟩ (.slice none 0 0)).setCell ⟨K, 1, none⟩ (.int .i64 cd)) K (s.1, cd) ∧ Kx K w ((w'.setCell ⟨K, 0, none⟩ (.slice none 0 0)).setCell ⟨K, 1, none⟩ (.int .i64 cd))) := fun w' q => HR.out.to q ⟨none, 0, 0, rfl⟩ (fun e => by omega)
  have y1 : (cd == 0) = false := beq_eq_false_iff_ne.2 (by omega)
  clear h hs hlo hcd hr e0 hne HR HLo
  go_enter Try.func56, Try.ntmps56
  go_wp2_with (go_at_call 62; refine HU.out.mono ?_; rintro e w1 ⟨rfl, HQ⟩; obtain ⟨d0, d1, df⟩ := HC.out w1 HQ.out)
  go_ret
  exact ⟨rfl, HF.out _ HQ.out⟩
/-- The program's next number. -/
theorem number_any {w0 w : World} {K : Nat} {s : St} (top : Nat) (ht : top < 9223372036854775808) (h : Rv w0 w K s) : Calls Try.prog 56 #[.pointer (some ⟨K, 0, none⟩), .int .u64 top] w fun e w' => e = .returned (.int .i64 (numS top s).1) ∧ Rv w0 w' K (numS top s).2 ∧ Kx K w w' := by
  by_cases hs : s.2 = 0
  · cases hr : rd 0 s.1 with
    | inl k => exact number_ok top ht h hs hr
    | inr x => exact number_err top h hs hr
  · exact number_bad top h hs
end
section
open Go.RowKit Pack
set_option linter.unusedVariables false
set_option linter.unusedSimpArgs false

/-- What bytes answers. -/
def ByP (w0 w : World) (K : Nat) (d : BB) (s : St) (e : Ending) (w' : World) : Prop := ∃ a c, e = .returned (.slice a d.length c) ∧ ReadsV w' (.slice a d.length c) d ∧ PV (fun g => w.heap.size ≤ g) a d.length ∧ Rv w0 w' K s ∧ Kx K w w'
set_option maxRecDepth 100000 in
set_option maxHeartbeats 800000 in
theorem bytes_bad {w0 w : World} {K : Nat} {s : St} (h : Rv w0 w K s) (hs : ¬ s.2 = 0) : Calls Try.prog 63 #[.pointer (some ⟨K, 0, none⟩)] w (ByP w0 w K (txtS s).1 (txtS s).2) := by
  have e0 : txtS s = ([], s) := by unfold txtS; rw [if_neg hs]
  rw [e0]
  have HF : Hid (ByP w0 w K [] s (.returned (.slice none 0 0)) w) := ⟨none, 0, rfl, ReadsV.nil _, PV.none _ _, h, Kx.refl _ _⟩
  obtain ⟨u, ⟨c0, c1, cf⟩, _, _⟩ := h.c
  have y1 : (s.2 == 0) = false := beq_eq_false_iff_ne.2 hs
  have y2 : (s.2 != 0) = true := by rw [bne, y1]; rfl
  clear h hs e0
  generalize s.2 = er at *
  go_enter Try.func63, Try.ntmps63
  go_wp2
  go_ret
  exact HF.out
set_option maxRecDepth 100000 in
set_option maxHeartbeats 800000 in
theorem bytes_go {w0 w : World} {K : Nat} {s s' : St} {d : BB} {er : Int} (h : Rv w0 w K s) (hs : s.2 = 0) (hd : d.length ≤ 100000000) (hu : ∀ wx u, Lo wx w0.heap.size u s.1 → Calls Try.prog 64 #[u] wx fun e w' => ∃ a n c a2 n2 c2, e = .returned (.tuple #[.slice a n c, .slice a2 n2 c2, .int .i64 er]) ∧ Hid (Lo w' w0.heap.size (.slice a n c) d ∧ (er = 0 → Lo w' w0.heap.size (.slice a2 n2 c2) s'.1) ∧ Below wx.heap.size wx w')) (hs' : s'.2 = er) : Calls Try.prog 63 #[.pointer (some ⟨K, 0, none⟩)] w (ByP w0 w K d s') := by
  have HR : Hid (Rv w0 w K s) := h
  obtain ⟨u, ⟨c0, c1, cf⟩, _, hlo⟩ := h.c
  have HU : Hid (Calls Try.prog 64 #[u] w fun e w' => ∃ a n c a2 n2 c2, e = .returned (.tuple #[.slice a n c, .slice a2 n2 c2, .int .i64 er]) ∧ Hid (Lo w' w0.heap.size (.slice a n c) d ∧ (er = 0 → Lo w' w0.heap.size (.slice a2 n2 c2) s'.1) ∧ Below w.heap.size w w')) := hu w u (hlo hs)
  have hlt := h.lt
  have HC : Hid (∀ w', Below w.heap.size w w' → Cell2 w' K u (.int .i64 0)) := fun w' q => by
    have hc2 : Cell2 w K u (.int .i64 0) := ⟨c0, by rw [← hs]; exact c1, cf⟩
    exact hc2.below q
  have HF : Hid (∀ w' a n c, Below w.heap.size w w' → (er = 0 → Lo w' w0.heap.size (.slice a n c) s'.1) → Rv w0 ((w'.setCell ⟨K, 0, none⟩ (.slice a n c)).setCell ⟨K, 1, none⟩ (.int .i64 er)) K s' ∧ Kx K w ((w'.setCell ⟨K, 0, none⟩ (.slice a n c)).setCell ⟨K, 1, none⟩ (.int .i64 er))) := fun w' a n c q q2 => by
    obtain ⟨x, y⟩ := s'
    simp only at hs'
    subst hs'
    exact HR.out.to q ⟨a, n, c, rfl⟩ q2
  have HCl : Hid (∀ (w' w2 : World) (a : Option Addr) (n c : Nat), Lo w' w0.heap.size (.slice a n c) d → Rv w0 w2 K s' → Kx K w w2 → (∀ g, g ≠ K → w2.heap[g]? = w'.heap[g]?) → Calls Try.prog 60 #[.slice a n c] w2 (ByP w0 w K d s')) := fun w' w2 a n c q1 q2 q3 q4 => by
    have hz := h.z
    refine (bclone_any _ d _ (q1.kept (w' := w2) (fun g hg => q4 g (by omega))).r hd).mono fun e w3 ⟨a3, c3, z1, z2, z3, z4⟩ => ⟨a3, c3, z1, z2, fun h0 x hx => Nat.le_trans q3.b.size (z3 h0 x hx), q2.below z4, q3.trans (Kx.below z4 (Nat.le_of_lt q2.lt))⟩
  rw [hs] at c1
  clear h hs hlo hu hs'
  go_enter Try.func63, Try.ntmps63
  go_wp2_with (first
    | (go_at_call 60; have := HQ; refine (HCl.out w1 _ a1 n1 k1 HQ.out.1 (HF.out w1 a2 n2 k2 HQ.out.2.2 HQ.out.2.1).1 (HF.out w1 a2 n2 k2 HQ.out.2.2 HQ.out.2.1).2 (fun g hg => (Below.heap_setCell _ _ _ _ hg).trans (Below.heap_setCell _ _ _ _ hg))).mono ?_; rintro e w3 ⟨a3, k3, rfl, hx⟩; have HX : Hid (ReadsV w3 (.slice a3 d.length k3) d ∧ PV (fun g => w.heap.size ≤ g) a3 d.length ∧ Rv w0 w3 K s' ∧ Kx K w w3) := hx; clear hx)
    | (go_at_call 64; refine HU.out.mono ?_; rintro e w1 ⟨a1, n1, k1, a2, n2, k2, rfl, HQ⟩; obtain ⟨d0, d1, df⟩ := HC.out w1 HQ.out.2.2))
  go_ret
  exact ⟨a3, k3, rfl, HX.out⟩
/-- The program's next bytes. -/
theorem bytes_next {w0 w : World} {K : Nat} {s : St} (h : Rv w0 w K s) (hl : s.2 = 0 → s.1.length ≤ 100000000) : Calls Try.prog 63 #[.pointer (some ⟨K, 0, none⟩)] w (ByP w0 w K (txtS s).1 (txtS s).2) := by
  by_cases hs : s.2 = 0
  · have hl := hl hs
    cases hr : rd 0 s.1 with
    | inl k =>
      obtain ⟨m, hm⟩ : ∃ m, val (s.1.take k) = m := ⟨_, rfl⟩
      by_cases hn : m ≤ s.1.length - k
      · have e0 : txtS s = ((s.1.drop k).take m, (s.1.drop (k + m), 0)) := by
          unfold txtS; rw [if_pos hs, hr]; simp only [hm]; rw [if_pos hn]
        rw [e0]
        refine bytes_go h hs (by rw [List.length_take, List.length_drop]; omega) (er := 0) (fun wx u hu => (readBytes_okN u s.1 k m wx hu.r hr hm hn).mono fun e w' ⟨sv, rv, z1, z2, z3, z4, z5, z6⟩ => ?_) rfl
        obtain ⟨a, c, e1, _⟩ := id z2
        obtain ⟨a2, c2, e2, _⟩ := id z3
        subst e1 e2
        exact ⟨a, _, c, a2, _, c2, z1, hu.near z2 z6, fun _ => hu.near z3 z5, z4⟩
      · have e0 : txtS s = ([], (s.1, 5)) := by
          unfold txtS; rw [if_pos hs, hr]; simp only [hm]; rw [if_neg hn]
        rw [e0]
        exact bytes_go h hs (by simp) (er := 5) (fun wx u hu => (readBytes_short u s.1 k m wx hu.r hr hm (by omega)).mono fun e w' ⟨z1, z2⟩ => ⟨none, 0, 0, none, 0, 0, z1, Lo.nil _ _, fun e => absurd e (by decide), z2⟩) rfl
    | inr x =>
      have hne : ∀ k, rd 0 s.1 ≠ .ok k := fun k e => by rw [hr] at e; cases e
      have e0 : txtS s = ([], (s.1, code (rd 0 s.1))) := by
        unfold txtS; rw [if_pos hs, hr]; cases x <;> rfl
      have hc := code_ne hne
      rw [e0]
      exact bytes_go h hs (by simp) (er := code (rd 0 s.1)) (fun wx u hu => (readBytes_err u s.1 _ wx hu.r hne rfl).mono fun e w' ⟨z1, z2⟩ => ⟨none, 0, 0, none, 0, 0, z1, Lo.nil _ _, fun e => by omega, z2⟩) rfl
  · exact bytes_bad h hs
end
section
open Go.RowKit Pack
set_option linter.unusedVariables false
set_option linter.unusedSimpArgs false

def entsT : Nat → St → List En × St
  | 0, s => ([], s)
  | n + 1, s => ((entsT n s).1 ++ [(entS (entsT n s).2).1], (entS (entsT n s).2).2)
def msgT (f t : Int) (s : St) : Ms × St :=
  (msgOf f t (numsS topL s).1 (entsT ((numsS topL s).1.getD 7 0).toNat (numsS topL s).2).1 (txtS (entsT ((numsS topL s).1.getD 7 0).toNat (numsS topL s).2).2).1,
    (txtS (entsT ((numsS topL s).1.getD 7 0).toNat (numsS topL s).2).2).2)
def mssT (f t : Int) : Nat → St → List Ms × St
  | 0, s => ([], s)
  | n + 1, s => ((mssT f t n s).1 ++ [(msgT f t (mssT f t n s).2).1], (msgT f t (mssT f t n s).2).2)
def bodyT (s : St) : Pk × St :=
  (((numS 7 s).1, (numS 7 (numS 7 s).2).1, (mssT (numS 7 s).1 (numS 7 (numS 7 s).2).1 (numS 256 (numS 7 (numS 7 s).2).2).1.toNat (numS 256 (numS 7 (numS 7 s).2).2).2).1),
    (mssT (numS 7 s).1 (numS 7 (numS 7 s).2).1 (numS 256 (numS 7 (numS 7 s).2).2).1.toNat (numS 256 (numS 7 (numS 7 s).2).2).2).2)
theorem num_bad {top : Nat} {s : St} (h : s.2 ≠ 0) : numS top s = (0, s) := by unfold numS; rw [if_neg h]
theorem txt_bad {s : St} (h : s.2 ≠ 0) : txtS s = ([], s) := by unfold txtS; rw [if_neg h]
theorem ent_bad {s : St} (h : s.2 ≠ 0) : entS s = ((0, []), s) := by unfold entS; rw [num_bad h, txt_bad h]
theorem nums_bad : ∀ (l : List Nat) {s : St}, s.2 ≠ 0 → numsS l s = (l.map (fun _ => 0), s)
  | [], s, h => rfl
  | a :: l, s, h => by
    rw [numsS, num_bad h]
    simp only [nums_bad l h, List.map_cons]
theorem entsT_eq (s : St) : ∀ n, ((entsS n s).2.2 = 0 → entsT n s = entsS n s) ∧ ((entsS n s).2.2 ≠ 0 → (entsT n s).2.2 = (entsS n s).2.2)
  | 0 => ⟨fun _ => rfl, fun _ => rfl⟩
  | n + 1 => by
    obtain ⟨h1, h2⟩ := entsT_eq s n
    by_cases h0 : (entsS n s).2.2 = 0
    · have e : entsT (n + 1) s = entsS (n + 1) s := by rw [ents_next h0, entsT, h1 h0]
      exact ⟨fun _ => e, fun _ => by rw [e]⟩
    · have e : entsS (n + 1) s = entsS n s := by rw [entsS, if_neg h0]
      rw [e]
      refine ⟨fun q => absurd q h0, fun _ => ?_⟩
      have h3 := h2 h0
      rw [entsT, ent_bad (by rw [h3]; exact h0)]
      exact h3
theorem msgT_eq (f t : Int) (s : St) : ((msgS f t s).2.2 = 0 → msgT f t s = msgS f t s) ∧ ((msgS f t s).2.2 ≠ 0 → (msgT f t s).2.2 = (msgS f t s).2.2) := by
  unfold msgT msgS
  obtain ⟨h1, h2⟩ := entsT_eq (numsS topL s).2 ((numsS topL s).1.getD 7 0).toNat
  by_cases h0 : (entsS ((numsS topL s).1.getD 7 0).toNat (numsS topL s).2).2.2 = 0
  · rw [h1 h0]
    exact ⟨fun _ => rfl, fun _ => rfl⟩
  · have h3 := h2 h0
    rw [txt_bad h0, txt_bad (by rw [h3]; exact h0)]
    exact ⟨fun q => absurd q h0, fun _ => h3⟩
theorem msgT_bad (f t : Int) {s : St} (h : s.2 ≠ 0) : (msgT f t s).2 = s := by
  unfold msgT
  rw [nums_bad topL h]
  show (txtS (entsT 0 s).2).2 = s
  rw [entsT, txt_bad h]
theorem mssT_eq (f t : Int) (s : St) : ∀ n, ((mssS f t n s).2.2 = 0 → mssT f t n s = mssS f t n s) ∧ ((mssS f t n s).2.2 ≠ 0 → (mssT f t n s).2.2 = (mssS f t n s).2.2)
  | 0 => ⟨fun _ => rfl, fun _ => rfl⟩
  | n + 1 => by
    obtain ⟨h1, h2⟩ := mssT_eq f t s n
    by_cases h0 : (mssS f t n s).2.2 = 0
    · rw [mss_next h0, mssT, h1 h0]
      obtain ⟨k1, k2⟩ := msgT_eq f t (mssS f t n s).2
      exact ⟨fun q => by rw [k1 q], fun q => k2 q⟩
    · have e : mssS f t (n + 1) s = mssS f t n s := by rw [mssS, if_neg h0]
      rw [e]
      refine ⟨fun q => absurd q h0, fun _ => ?_⟩
      have h3 := h2 h0
      rw [mssT, msgT_bad f t (by rw [h3]; exact h0)]
      exact h3
theorem bodyT_end (s : St) : endS (bodyT s).1 (bodyT s).2 = endS (bodyS s).1 (bodyS s).2 := by
  unfold bodyT bodyS
  obtain ⟨h1, h2⟩ := mssT_eq (numS 7 s).1 (numS 7 (numS 7 s).2).1 (numS 256 (numS 7 (numS 7 s).2).2).2 (numS 256 (numS 7 (numS 7 s).2).2).1.toNat
  by_cases h0 : (mssS (numS 7 s).1 (numS 7 (numS 7 s).2).1 (numS 256 (numS 7 (numS 7 s).2).2).1.toNat (numS 256 (numS 7 (numS 7 s).2).2).2).2.2 = 0
  · rw [h1 h0]
  · have h3 := h2 h0
    unfold endS
    simp only
    rw [if_neg h0, if_neg (by rw [h3]; exact h0), h3]
theorem entsT_len (s : St) : ∀ n, (entsT n s).1.length = n
  | 0 => rfl
  | n + 1 => by rw [entsT, List.length_append, entsT_len s n]; rfl
theorem mssT_len (f t : Int) (s : St) : ∀ n, (mssT f t n s).1.length = n
  | 0 => rfl
  | n + 1 => by rw [mssT, List.length_append, mssT_len f t s n]; rfl
theorem num_len (top : Nat) (s : St) : (numS top s).2.1.length ≤ s.1.length := by
  unfold numS
  split
  · cases rd 0 s.1 with
    | inl k => simp only; split <;> simp only [List.length_drop] <;> omega
    | inr b => cases b <;> exact Nat.le_refl _
  · exact Nat.le_refl _
theorem txt_len (s : St) : (txtS s).2.1.length ≤ s.1.length := by
  unfold txtS
  split
  · cases rd 0 s.1 with
    | inl k => simp only; split <;> simp only [List.length_drop] <;> omega
    | inr b => cases b <;> exact Nat.le_refl _
  · exact Nat.le_refl _
theorem entsT_rest (s : St) : ∀ n, (entsT n s).2.1.length ≤ s.1.length
  | 0 => Nat.le_refl _
  | n + 1 => by
    rw [entsT]
    exact Nat.le_trans (txt_len _) (Nat.le_trans (num_len _ _) (entsT_rest s n))
theorem nums_rest : ∀ (l : List Nat) (s : St), (numsS l s).2.1.length ≤ s.1.length
  | [], s => Nat.le_refl _
  | a :: l, s => by
    rw [numsS]
    exact Nat.le_trans (nums_rest l _) (num_len a s)
theorem msgT_rest (f t : Int) (s : St) : (msgT f t s).2.1.length ≤ s.1.length := by
  unfold msgT
  exact Nat.le_trans (txt_len _) (Nat.le_trans (entsT_rest _ _) (nums_rest _ _))
theorem mssT_rest (f t : Int) (s : St) : ∀ n, (mssT f t n s).2.1.length ≤ s.1.length
  | 0 => Nat.le_refl _
  | n + 1 => by
    rw [mssT]
    exact Nat.le_trans (msgT_rest f t _) (mssT_rest f t s n)
end
end Go.Proofs.Ytcaddedkodjgcaa
