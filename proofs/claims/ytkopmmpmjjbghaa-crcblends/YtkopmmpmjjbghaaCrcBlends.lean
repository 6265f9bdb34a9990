/-
  Proved: for every three slices of bytes the law CrcBlends (of three texts of one length the sum of all blended, bit by bit, is their sums blended) returns true, and the three slices read behind the call as they read before. Conditions: none.
  The frame below the walk was written by the guide's program (proof-skeleton); the walk is by hand.
-/
import Derived.Test.YtkopmmpmjjbghaaRows
import Derived.Test.YtkopmmpmjjbghaaOwn
import Derived.WalkKit
import Derived.ProofKit
import Derived.OpenShut
import Derived.ShutString
import Derived.ChangeOld
import Derived.Below
namespace Go.Proofs.Ytkopmmpmjjbghaa.crcBlends
open Go.ChangeShapes Go.WideShapes Go.ChangeAt Go.RowKit Crc
open Go.ChangeMaps (open_string shut_string)
set_option linter.unusedVariables false

theorem own : ownKnob Try.prog.godebug = none := by kernel_rfl
theorem laidOut : laidOutB Try.prog = true := by kernel_rfl

/-- The first k blended bytes; one of them. -/
def bl (l m p : List (BitVec 8)) (k : Nat) : List (BitVec 8) := (blend l m p).take k
def bx (a b : BitVec 8) : BitVec 8 := a ^^^ b
theorem xor_bx (a b : BitVec 8) : bits .xor .u8 (B a) (B b) = B (bx a b) := xor_B a b

theorem nth_blend : ∀ (l m p : List (BitVec 8)) (k : Nat), l.length = m.length → m.length = p.length → k < l.length → nth (blend l m p) k = bx (bx (nth l k) (nth m k)) (nth p k)
  | x :: l, y :: m, z :: p, 0, _, _, _ => rfl
  | x :: l, y :: m, z :: p, k + 1, h1, h2, hk => nth_blend l m p k (by simpa using h1) (by simpa using h2) (by simpa using hk)

theorem bl_succ (l m p : List (BitVec 8)) (k : Nat) (h1 : l.length = m.length) (h2 : m.length = p.length) (hk : k < l.length) : bl l m p (k + 1) = bl l m p k ++ [bx (bx (nth l k) (nth m k)) (nth p k)] := by
  have hb := blend_length l m p h1 h2
  unfold bl
  rw [List.take_succ_eq_append_getElem (by omega), ← nth_blend l m p k h1 h2 hk]
  simp [nth, show k < (blend l m p).length by omega]
theorem bl_len (l m p : List (BitVec 8)) (k : Nat) (h1 : l.length = m.length) (h2 : m.length = p.length) (hk : k ≤ l.length) : (bl l m p k).length = k := by
  have hb := blend_length l m p h1 h2
  simp [bl, hb]; omega

/-- What the three slices hold. -/
theorem cells_of {w : World} {a : Option Addr} {len cap : Nat} {l : List (BitVec 8)} (h : ReadsV w (.slice a len cap) l) (hp : 0 < len) : ∃ b off, a = some ⟨b, off, none⟩ ∧ b < w.heap.size ∧ ∀ i, i < len → w.cell? ⟨b, off + i, none⟩ = some (.int .u8 (B (nth l i))) := by
  obtain ⟨a', cap', hv, _, hr⟩ := h
  simp only [Value.slice.injEq] at hv
  obtain ⟨rfl, hl, rfl⟩ := hv
  rcases hr.2 with h0 | ⟨b, off, ha, hc⟩
  · subst h0; simp at hl; omega
  · exact ⟨b, off, ha, World.block_lt_of_cell? w _ (hc 0 (by omega)), fun i hi => hc i (by omega)⟩

/-- One round. -/
theorem rel_step {w wr w1 : World} {v : Value} {o : Obj} {l : List (BitVec 8)} (hB : Below w.heap.size w wr) (ho : wr.ownsRow w.heap.size 5 1 v l.length (bytesV l)) (hg : (wr.alloc o).drew.grownBy w1 v.ownBlock) : Below w.heap.size w w1 :=
  ((hB.alloc hB.size o).drew).grown hg (by simp; have := hB.size; omega) (fun k hk => (ho.lt k hk).1)

def sx (a b : BitVec 32) : BitVec 32 := a ^^^ b
theorem all_three (l m p : List (BitVec 8)) (k : Nat) (h1 : l.length = m.length) (h2 : m.length = p.length) (hk : k = l.length) :
    bits .xor .u32 (W (sum l)) (W (sum m)) = W (sx (sum l) (sum m)) ∧ bits .xor .u32 (W (sx (sum l) (sum m))) (W (sum p)) = W (sum (bl l m p k)) := by
  refine ⟨xor_W _ _, ?_⟩
  rw [xor_W]
  unfold sx bl
  rw [sum_blend l m p h1 h2, List.take_of_length_le (by rw [blend_length l m p h1 h2]; omega)]

theorem base_le {n : Nat} {wr : World} (h : n ≤ wr.heap.size) (o : Obj) : n ≤ (wr.alloc o).drew.heap.size := by
  show n ≤ (wr.heap.push o).size
  rw [Array.size_push]; omega

/-! ### STEP 1: THE WALK: the Go text returns true, AND WRITES NOTHING THAT WAS THERE: 'Below w.heap.size w w'' (Derived/Below.lean: '.refl', '.alloc', '.drew', '.setCell' at a new block, '.trans'). Open each 'IsRow' by 'rcases' AHEAD of 'go_enter'; part every test ahead of the walk. -/
set_option maxHeartbeats 1000000 in
theorem walk (a0 : Option Addr) (len0 cap0 : Nat) (z0 : List Int) (a1 : Option Addr) (len1 cap1 : Nat) (z1 : List Int) (a2 : Option Addr) (len2 cap2 : Nat) (z2 : List Int) (w : World) (w0 : IsRow .u8 w a0 len0 cap0 z0) (w1 : IsRow .u8 w a1 len1 cap1 z1) (w2 : IsRow .u8 w a2 len2 cap2 z2) :
    Calls Try.prog 6 #[.slice a0 len0 cap0, .slice a1 len1 cap1, .slice a2 len2 cap2] w fun e w' => e = .returned (.bool true) ∧ Below w.heap.size w w' := by
  obtain ⟨l, hl, hr⟩ := readsV_of w0
  obtain ⟨m, hk, hq⟩ := readsV_of w1
  obtain ⟨p, hj, hs⟩ := readsV_of w2
  clear w0 w1 w2
  have hlm : len0 ≤ 9223372036854775807 := by obtain ⟨_, _, _, _, h⟩ := hr; have := h.1; unfold maxLen at this; omega
  have hmm : len1 ≤ 9223372036854775807 := by obtain ⟨_, _, _, _, h⟩ := hq; have := h.1; unfold maxLen at this; omega
  have hpm : len2 ≤ 9223372036854775807 := by obtain ⟨_, _, _, _, h⟩ := hs; have := h.1; unfold maxLen at this; omega
  by_cases h01 : len0 = len1
  case neg =>
    clear hr hq hs hl hk hj
    have hne : ((len0 : Int) != (len1 : Int)) = true := by simp; omega
    go_enter Try.func6, Try.ntmps6
    go_wp2_with (go_at_call 8; refine (works_any _).mono ?_; rintro e w' ⟨rfl, hb⟩)
    go_ret
    exact ⟨rfl, hb⟩
  subst h01
  by_cases h12 : len0 = len2
  case neg =>
    clear hr hq hs hl hk hj
    have hne : ((len0 : Int) != (len2 : Int)) = true := by simp; omega
    go_enter Try.func6, Try.ntmps6
    go_wp2_with (go_at_call 8; refine (works_any _).mono ?_; rintro e w' ⟨rfl, hb⟩)
    go_ret
    exact ⟨rfl, hb⟩
  subst h12
  by_cases hbig : 5000 < len0
  case pos =>
    clear hr hq hs hl hk hj
    go_enter Try.func6, Try.ntmps6
    go_wp2_with (go_at_call 8; refine (works_any _).mono ?_; rintro e w' ⟨rfl, hb⟩)
    go_ret
    exact ⟨rfl, hb⟩
  have HL : Hid (l.length = len0 ∧ m.length = len0 ∧ p.length = len0) := ⟨hl.symm, hk.symm, hj.symm⟩
  have HR : Hid (ReadsV w (.slice a0 len0 cap0) l) := hr
  have HQ : Hid (ReadsV w (.slice a1 len0 cap1) m) := hq
  have HP : Hid (ReadsV w (.slice a2 len0 cap2) p) := hs
  clear hr hq hs hl hk hj
  obtain ⟨y1, y2⟩ := all_three l m p len0 (by have := HL.out; omega) (by have := HL.out; omega) (by have := HL.out; omega)
  rcases Nat.eq_zero_or_pos len0 with hz | hpos
  · subst hz
    have hw0 : Hid (bl l m p 0 = []) := rfl
    have HO : Hid (w.ownsRow w.heap.size 5 1 (.slice none 0 0) (bl l m p 0).length (bytesV (bl l m p 0))) := by
      show w.ownsRow w.heap.size 5 1 (.slice none 0 0) (bl l m p 0).length (bytesV (bl l m p 0))
      rw [hw0.out]; exact World.ownsRow_nil _ _ _ _
    go_enter Try.func6, Try.ntmps6
    go_wp2
    refine wp_loop_rounds 1 ?_
    rw [rounds_succ]
    go_wp2_with (first
      | (go_at_call 9; refine (sum_row _ l _ HR.out).mono ?_; rintro e w' ⟨rfl, rfl⟩)
      | (go_at_call 9; refine (sum_row _ m _ HQ.out).mono ?_; rintro e w' ⟨rfl, rfl⟩)
      | (go_at_call 9; refine (sum_row _ p _ HP.out).mono ?_; rintro e w' ⟨rfl, rfl⟩)
      | (go_at_call 9; refine (sum_row _ (bl l m p 0) _ (ReadsV.of_own HO.out)).mono ?_; rintro e w' ⟨rfl, rfl⟩)
      | (go_at_call 8; refine (works_any _).mono ?_; rintro e w3 ⟨rfl, hb⟩))
    go_ret
    exact ⟨rfl, hb⟩
  · obtain ⟨b0, off0, rfl, hb0, hc0⟩ := cells_of HR.out hpos
    obtain ⟨b1, off1, rfl, hb1, hc1⟩ := cells_of HQ.out hpos
    obtain ⟨b2, off2, rfl, hb2, hc2⟩ := cells_of HP.out hpos
    go_enter Try.func6, Try.ntmps6
    go_wp2
    go_loopw [7, 8] (fun v i wr => ∃ k : Nat, k ≤ len0 ∧ i = .int .i64 k ∧ wr.ownsRow w.heap.size 5 1 v (bl l m p k).length (bytesV (bl l m p k)) ∧ Below w.heap.size w wr) (fun _ i _ => len0 - (intOf i).toNat)
    case atStart => exact ⟨0, Nat.zero_le _, rfl, World.ownsRow_nil _ _ _ _, Below.refl _ _⟩
    case round =>
      obtain ⟨k, hk, rfl, hown, hB⟩ := hrel
      have HO : Hid (wr.ownsRow w.heap.size 5 1 u7 (bl l m p k).length (bytesV (bl l m p k))) := hown
      have HB : Hid (Below w.heap.size w wr) := hB
      clear hown hB
      by_cases hlt : k < len0
      · have g0 : wr.cell? ⟨b0, off0 + k, none⟩ = some (.int .u8 (B (nth l k))) := (HB.out.cell (by exact hb0)).trans (hc0 k hlt)
        have g1 : wr.cell? ⟨b1, off1 + k, none⟩ = some (.int .u8 (B (nth m k))) := (HB.out.cell (by exact hb1)).trans (hc1 k hlt)
        have g2 : wr.cell? ⟨b2, off2 + k, none⟩ = some (.int .u8 (B (nth p k))) := (HB.out.cell (by exact hb2)).trans (hc2 k hlt)
        clear hc0 hc1 hc2
        have x1 := xor_bx (nth l k) (nth m k)
        have x2 := xor_bx (bx (nth l k) (nth m k)) (nth p k)
        have hlt' : (k : Int) < (len0 : Int) := by omega
        have HS : Hid (bl l m p (k + 1) = bl l m p k ++ [bx (bx (nth l k) (nth m k)) (nth p k)]) := bl_succ l m p k (by have := HL.out; omega) (by have := HL.out; omega) (by have := HL.out; omega)
        have HN : Hid ((bl l m p k).length = k) := bl_len l m p k (by have := HL.out; omega) (by have := HL.out; omega) (by have := HL.out; omega)
        have HZ : Hid (w.heap.size ≤ wr.heap.size) := HB.out.size
        have HN1 : Hid ((bl l m p k).length + [bx (bx (nth l k) (nth m k)) (nth p k)].length ≤ 140737488355328) := by have := HN.out; show (bl l m p k).length + 1 ≤ 140737488355328; omega
        go_wp2
        go_region_law (refine step_append_bytes rfl (.tmp 33) (.tmp 48) 22 rfl w.heap.size 5 Try.underlying22 Try.info5 _ (bl l m p k) rfl (World.ownsRow.drew (World.ownsRow.alloc HO.out _)) _ 1 [bx (bx (nth l k) (nth m k)) (nth p k)] rfl (reads_one_drew _ _ _) HN1.out (base_le HZ.out _) ?_; intro v1 w1 hown1 hg1; have O1 : Hid (w1.ownsRow w.heap.size 5 1 v1 (bl l m p k ++ [bx (bx (nth l k) (nth m k)) (nth p k)]).length (bytesV (bl l m p k ++ [bx (bx (nth l k) (nth m k)) (nth p k)]))) := hown1; have B1 : Hid (Below w.heap.size w w1) := rel_step HB.out HO.out hg1; clear hown1 hg1)
        all_goals
          go_wp2
          go_roundw
          case rel => exact ⟨k + 1, by omega, by go_num, by rw [HS.out]; exact O1.out, B1.out⟩
          case measure => simp [intOf]; omega
      · have hkl : k = len0 := by omega
        subst hkl
        go_wp2_with (first
          | (go_at_call 9; refine (sum_row _ l _ (HR.out.below HB.out)).mono ?_; rintro e w' ⟨rfl, rfl⟩)
          | (go_at_call 9; refine (sum_row _ m _ (HQ.out.below HB.out)).mono ?_; rintro e w' ⟨rfl, rfl⟩)
          | (go_at_call 9; refine (sum_row _ p _ (HP.out.below HB.out)).mono ?_; rintro e w' ⟨rfl, rfl⟩)
          | (go_at_call 9; refine (sum_row _ (bl l m p k) _ (ReadsV.of_own HO.out)).mono ?_; rintro e w' ⟨rfl, rfl⟩)
          | (go_at_call 8; refine (works_any _).mono ?_; rintro e w3 ⟨rfl, hb⟩))
        go_ret
        exact ⟨rfl, HB.out.trans (hb.mono HB.out.size)⟩

/-! ### THE ROW's STEP: WRITTEN OUT: LEAVE IT -/
set_option maxRecDepth 100000 in
theorem lifted (os : Os) (started : os.Started) (H : Type) (enc : TypeId × Value → H) :
    ReturnsInHanded {} Try.checked os 6 .any (Rows.crcBlendsSpec.pre6 enc Try.prog Try.f6 Rows.crcBlendsRow.domain false) (Rows.crcBlendsSpec.post enc Try.prog Try.f6 false true false false) := by
  refine returnsInHanded_of_change (C := Try.checked) own started (by kernel_rfl) Try.func6
    (ChangeSpec.witness6 (enc := enc) (C := Try.checked) false ⟨#[], #[.slice none 0 0, .slice none 0 0, .slice none 0 0], []⟩ 8 (by kernel_rfl) (by kernel_rfl) (by kernel_rfl) (by kernel_rfl)) ?_
  intro W base args ds gs before hval0 hW hcnd _
  have hval : ∀ (j : Nat) t v, Try.f6.params[j]? = some t → args[j]? = some v → Value.okWide Try.prog W .any base t v := hval0
  have hW' := hW
  obtain ⟨p, q, hA0, hV, rfl, hfz, hnd⟩ := hW
  have hA : DataW.TrodAll enc Try.prog W 0 (fun _ => true) true Try.f6.params.toList args.toList ds p := hA0
  rw [Try.params6] at hA hval
  obtain ⟨v0, vs0, d0, ds0, p0, q0, hargs, rfl, rfl, h0, r0⟩ := trodAll_cons hA
  obtain ⟨v1, vs1, d1, ds1, p1, q1, rfl, rfl, rfl, h1, r1⟩ := trodAll_cons r0
  obtain ⟨v2, vs2, d2, ds2, p2, q2, rfl, rfl, rfl, h2, r2⟩ := trodAll_cons r1
  obtain ⟨rfl, rfl, rfl⟩ := trodAll_nil r2
  obtain rfl : args = #[v0, v1, v2] := by cases args; simp_all
  obtain ⟨rfl, rfl⟩ := trodVars_none hV
  obtain ⟨a0, len0, cap0, rfl⟩ := okWide_slice Try.underlying22 (hval 0 22 v0 rfl rfl)
  have k0 := h0
  have lt0 : ∀ x ∈ p0, x.block < W.heap.size := by obtain ⟨m, hm⟩ := k0; exact DataW.trod_lt m _ _ _ hm
  obtain ⟨z0, w0⟩ : ∃ zs, IsRow .u8 W a0 len0 cap0 zs := by
    obtain ⟨fuel, hf⟩ := h0
    rcases open_ints Try.underlying22 Try.underlying5 (by kernel_rfl) hf with ⟨hcs, _⟩ | ⟨x, l, c, zs, hcs, _, hl, hm, hz, _, hcell, hwz⟩
    · simp [Value.cells] at hcs
      obtain ⟨rfl, rfl, rfl⟩ := hcs
      exact ⟨[], .inl ⟨rfl, rfl, rfl, rfl⟩⟩
    · simp [Value.cells] at hcs
      obtain ⟨rfl, rfl, rfl⟩ := hcs
      exact ⟨zs, .inr ⟨_, rfl, hl, hm, by simpa using hz, hcell, hwz⟩⟩
  obtain ⟨a1, len1, cap1, rfl⟩ := okWide_slice Try.underlying22 (hval 1 22 v1 rfl rfl)
  have k1 := h1
  have lt1 : ∀ x ∈ p1, x.block < W.heap.size := by obtain ⟨m, hm⟩ := k1; exact DataW.trod_lt m _ _ _ hm
  obtain ⟨z1, w1⟩ : ∃ zs, IsRow .u8 W a1 len1 cap1 zs := by
    obtain ⟨fuel, hf⟩ := h1
    rcases open_ints Try.underlying22 Try.underlying5 (by kernel_rfl) hf with ⟨hcs, _⟩ | ⟨x, l, c, zs, hcs, _, hl, hm, hz, _, hcell, hwz⟩
    · simp [Value.cells] at hcs
      obtain ⟨rfl, rfl, rfl⟩ := hcs
      exact ⟨[], .inl ⟨rfl, rfl, rfl, rfl⟩⟩
    · simp [Value.cells] at hcs
      obtain ⟨rfl, rfl, rfl⟩ := hcs
      exact ⟨zs, .inr ⟨_, rfl, hl, hm, by simpa using hz, hcell, hwz⟩⟩
  obtain ⟨a2, len2, cap2, rfl⟩ := okWide_slice Try.underlying22 (hval 2 22 v2 rfl rfl)
  have k2 := h2
  have lt2 : ∀ x ∈ p2, x.block < W.heap.size := by obtain ⟨m, hm⟩ := k2; exact DataW.trod_lt m _ _ _ hm
  obtain ⟨z2, w2⟩ : ∃ zs, IsRow .u8 W a2 len2 cap2 zs := by
    obtain ⟨fuel, hf⟩ := h2
    rcases open_ints Try.underlying22 Try.underlying5 (by kernel_rfl) hf with ⟨hcs, _⟩ | ⟨x, l, c, zs, hcs, _, hl, hm, hz, _, hcell, hwz⟩
    · simp [Value.cells] at hcs
      obtain ⟨rfl, rfl, rfl⟩ := hcs
      exact ⟨[], .inl ⟨rfl, rfl, rfl, rfl⟩⟩
    · simp [Value.cells] at hcs
      obtain ⟨rfl, rfl, rfl⟩ := hcs
      exact ⟨zs, .inr ⟨_, rfl, hl, hm, by simpa using hz, hcell, hwz⟩⟩
  clear hA0 hval0
  refine (walk a0 len0 cap0 z0 a1 len1 cap1 z1 a2 len2 cap2 z2 W w0 w1 w2).mono fun e W' ⟨he, bel⟩ => ?_
  subst he
  exact ⟨_, rfl, _, _, _, [], _, [], hW', trodAll_mk1 (shut_bool Try.underlying4 _), (trodAll_cons_mk (Below.trod laidOut (by kernel_rfl) (of_decide_eq_true (by kernel_rfl)) k0 bel lt0) (trodAll_cons_mk (Below.trod laidOut (by kernel_rfl) (of_decide_eq_true (by kernel_rfl)) k1 bel lt1) (trodAll_cons_mk (Below.trod laidOut (by kernel_rfl) (of_decide_eq_true (by kernel_rfl)) k2 bel lt2) trodAll_mk0))), rfl, bel.frame _, fun h => by cases h⟩

theorem over : Rows.crcBlendsRow.holds Try.pinned (OpenSpec.ofChange Rows.crcBlendsSpec) :=
  OpenClaim.holds_of_wide 6 Try.f6 rfl rfl rfl rfl rfl rfl rfl ⟨rfl, rfl, rfl, rfl, rfl⟩ rfl rfl rfl rfl rfl (by kernel_rfl) Try.func6 (by kernel_rfl)
    (of_decide_eq_true (by kernel_rfl)) (by unfold Func.isWrapper; first | (rw [if_pos (by decide +kernel)]; kernel_rfl) | (rw [if_neg (by decide +kernel)]; exact ⟨rfl, rfl⟩))
    (fun os started H enc _ => lifted os started H enc)

/-- ████ THE STATEMENT ████ -/
theorem proved : Rows.CrcBlendsSaid := over
#print axioms proved
end Go.Proofs.Ytkopmmpmjjbghaa.crcBlends
