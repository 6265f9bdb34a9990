/-
  Proved: for every slice of bytes, every int and every uint32 the law CrcTells (a burst of up to 32 bits that is turned turns the sum) returns true, and all arguments read behind the call as they read before. Conditions: none.
  The frame below the walk was written by the guide's program (proof-skeleton); the walk is by hand.
-/
import Derived.Test.YtkopmmpmjjbghaaRows
import Derived.Test.YtkopmmpmjjbghaaOwn
import Derived.WalkKit
import Derived.ProofKit
import Derived.OpenShut
import Derived.ShutString
import Derived.ChangeOld
import Derived.Below
namespace Go.Proofs.Ytkopmmpmjjbghaa.crcTells
open Go.ChangeShapes Go.WideShapes Go.ChangeAt Go.RowKit Crc
open Go.ChangeMaps (open_string shut_string)
set_option linter.unusedVariables false

theorem own : ownKnob Try.prog.godebug = none := by kernel_rfl
theorem laidOut : laidOutB Try.prog = true := by kernel_rfl

theorem place (a : Int) (n : Nat) (h : 5 ≤ n) : ∃ K : Nat, (IntKind.u64.wrap a).tmod ((n : Int) - 4) = (K : Int) ∧ K + 4 < n := by
  have h0 := wrap_u64_nonneg a
  refine ⟨((IntKind.u64.wrap a).tmod ((n : Int) - 4)).toNat, ?_, ?_⟩
  · rw [Int.toNat_of_nonneg]
    exact Int.tmod_nonneg _ h0
  · have h1 := Int.tmod_lt_of_pos (IntKind.u64.wrap a) (show (0 : Int) < (n : Int) - 4 by omega)
    have h2 := Int.tmod_nonneg ((n : Int) - 4) h0
    omega

def bt (b : BitVec 32) (j : Nat) : BitVec 8 := (b >>> (8 * j)).setWidth 8
def bx (a b : BitVec 8) : BitVec 8 := a ^^^ b
/-- The first j of the four bytes from K on turned. -/
def tn (l : List (BitVec 8)) (K : Nat) (b : BitVec 32) : Nat → List (BitVec 8)
  | 0 => l
  | j + 1 => (tn l K b j).set (K + j) (bx (nth (tn l K b j) (K + j)) (bt b j))
theorem tn_len (l : List (BitVec 8)) (K : Nat) (b : BitVec 32) (j : Nat) : (tn l K b j).length = l.length := by
  induction j with
  | zero => rfl
  | succ j ih => simp [tn, ih]

theorem byte_eq (x : BitVec 32) (n : Nat) : W x / 2 ^ n % 256 = B ((x >>> n).setWidth 8) := by
  unfold W B
  rw [shr_word, BitVec.toNat_setWidth]
  omega
theorem value_eq (x : BitVec 8) (b : BitVec 32) (j : Nat) : bits .xor .u8 (B x) (W b / 2 ^ (8 * j) % 256) = B (bx x (bt b j)) := by
  rw [byte_eq, xor_B]; rfl
theorem bytesV_set (l : List (BitVec 8)) (i : Nat) (b : BitVec 8) : bytesV (l.set i b) = (bytesV l).set i (.int .u8 (B b)) := by simp [bytesV, List.map_set]

theorem rel_turn {w wr : World} {g len cap K j : Nat} {l : List (BitVec 8)} {b : BitVec 32}
    (ho : wr.ownsRow w.heap.size 5 1 (.slice (some ⟨g, 0, none⟩) len cap) len (bytesV (tn l K b j))) (hB : Below w.heap.size w wr) (hg : w.heap.size ≤ g) :
    (wr.setCell ⟨g, K + j, none⟩ (.int .u8 (bits .xor .u8 (B (nth (tn l K b j) (K + j))) (W b / 2 ^ (8 * j) % 256)))).drew.ownsRow w.heap.size 5 1 (.slice (some ⟨g, 0, none⟩) len cap) len (bytesV (tn l K b (j + 1))) ∧
    Below w.heap.size w (wr.setCell ⟨g, K + j, none⟩ (.int .u8 (bits .xor .u8 (B (nth (tn l K b j) (K + j))) (W b / 2 ^ (8 * j) % 256)))).drew := by
  refine ⟨?_, (hB.setCell (p := ⟨g, K + j, none⟩) hg _).drew⟩
  rw [value_eq, tn, bytesV_set]
  exact World.ownsRow.drew (World.ownsRow.stored ho (K + j) _).1

theorem x8 (a b c d e f g h : Bool) : ((((a ^^ b) ^^ (c ^^ d)) ^^ (e ^^ f)) ^^ (g ^^ h)) = ((((a ^^ c) ^^ e) ^^ g) ^^ (((b ^^ d) ^^ f) ^^ h)) := by
  cases a <;> cases b <;> cases c <;> cases d <;> cases e <;> cases f <;> cases g <;> cases h <;> rfl
theorem word_xor (a0 a1 a2 a3 b0 b1 b2 b3 : BitVec 8) : word (bx a0 b0) (bx a1 b1) (bx a2 b2) (bx a3 b3) = word a0 a1 a2 a3 ^^^ word b0 b1 b2 b3 := by
  apply BitVec.eq_of_getLsbD_eq
  intro i hi
  unfold word bx
  simp only [BitVec.getLsbD_xor, BitVec.getLsbD_shiftLeft, BitVec.getLsbD_setWidth, hi, decide_true, Bool.true_and]
  simp only [Bool.and_xor_distrib_left]
  exact x8 _ _ _ _ _ _ _ _

theorem burst_ne (b0 b1 b2 b3 : BitVec 8) (b : BitVec 32) (h : b ≠ 0#32) : word b0 b1 b2 b3 ≠ word (bx b0 (bt b 0)) (bx b1 (bt b 1)) (bx b2 (bt b 2)) (bx b3 (bt b 3)) := by
  intro e
  have hw : word (bt b 0) (bt b 1) (bt b 2) (bt b 3) = b := by
    have := word_of b
    simpa [bt] using this
  rw [word_xor, hw] at e
  apply h
  have e2 : word b0 b1 b2 b3 ^^^ word b0 b1 b2 b3 = word b0 b1 b2 b3 ^^^ (word b0 b1 b2 b3 ^^^ b) := by rw [← e]
  rw [BitVec.xor_self, ← BitVec.xor_assoc, BitVec.xor_self, BitVec.zero_xor] at e2
  exact e2.symm

theorem split_four (l : List (BitVec 8)) (K : Nat) (h : K + 4 < l.length) : ∃ p b0 b1 b2 b3 q, l = p ++ [b0, b1, b2, b3] ++ q ∧ p.length = K := by
  refine ⟨l.take K, l[K], l[K + 1], l[K + 2], l[K + 3], l.drop (K + 4), ?_, by simp; omega⟩
  have e0 : l.drop K = l[K] :: l.drop (K + 1) := List.drop_eq_getElem_cons (by omega)
  have e1 : l.drop (K + 1) = l[K + 1] :: l.drop (K + 2) := List.drop_eq_getElem_cons (by omega)
  have e2 : l.drop (K + 2) = l[K + 2] :: l.drop (K + 3) := List.drop_eq_getElem_cons (by omega)
  have e3 : l.drop (K + 3) = l[K + 3] :: l.drop (K + 4) := List.drop_eq_getElem_cons (by omega)
  have : l = l.take K ++ l.drop K := (List.take_append_drop K l).symm
  rw [e0, e1, e2, e3] at this
  rw [List.append_assoc]
  exact this

theorem tn_four (p q : List (BitVec 8)) (b0 b1 b2 b3 : BitVec 8) (b : BitVec 32) : tn (p ++ [b0, b1, b2, b3] ++ q) p.length b 4 = p ++ [bx b0 (bt b 0), bx b1 (bt b 1), bx b2 (bt b 2), bx b3 (bt b 3)] ++ q := by
  simp [tn, nth]

theorem turned_ne (l : List (BitVec 8)) (K : Nat) (b : BitVec 32) (h : K + 4 < l.length) (hb : b ≠ 0#32) : (W (sum l) != W (sum (tn l K b 4))) = true := by
  obtain ⟨p, b0, b1, b2, b3, q, rfl, rfl⟩ := split_four l K h
  rw [tn_four]
  have := tells p q b0 b1 b2 b3 _ _ _ _ (burst_ne b0 b1 b2 b3 b hb)
  simp only [bne_iff_ne, ne_eq]
  exact fun e => this (W_inj e)

/-! ### STEP 1: THE WALK: the Go text returns true, AND WRITES NOTHING THAT WAS THERE: 'Below w.heap.size w w'' (Derived/Below.lean: '.refl', '.alloc', '.drew', '.setCell' at a new block, '.trans'). Open each 'IsRow' by 'rcases' AHEAD of 'go_enter'; part every test ahead of the walk. -/
set_option maxHeartbeats 1000000 in
theorem walk (a0 : Option Addr) (len0 cap0 : Nat) (z0 : List Int) (a1 : Int) (a2 : Int) (w : World) (w0 : IsRow .u8 w a0 len0 cap0 z0) (w1 : (Lit.int .i64 a1).wf = true) (w2 : (Lit.int .u32 a2).wf = true) :
    Calls Try.prog 5 #[.slice a0 len0 cap0, .int .i64 a1, .int .u32 a2] w fun e w' => e = .returned (.bool true) ∧ Below w.heap.size w w' := by
  obtain ⟨l, hl, hr⟩ := readsV_of w0
  clear w0
  obtain ⟨bu, rfl⟩ : ∃ b : BitVec 32, a2 = W b := word_of_int w2
  obtain ⟨hb0, hb1⟩ := W_range bu
  have hlm : len0 ≤ 9223372036854775807 := by obtain ⟨_, _, _, _, h⟩ := hr; have := h.1; unfold maxLen at this; omega
  by_cases hsmall : len0 < 5
  case pos =>
    clear hr hl
    go_enter Try.func5, Try.ntmps5
    go_wp2_with (go_at_call 8; refine (works_any _).mono ?_; rintro e w' ⟨rfl, hb⟩)
    go_ret
    exact ⟨rfl, hb⟩
  by_cases hbig : 5000 < len0
  case pos =>
    clear hr hl
    go_enter Try.func5, Try.ntmps5
    go_wp2_with (go_at_call 8; refine (works_any _).mono ?_; rintro e w' ⟨rfl, hb⟩)
    go_ret
    exact ⟨rfl, hb⟩
  by_cases hz : W bu = 0
  case pos =>
    clear hr hl
    have hz' : (W bu == 0) = true := by simp [hz]
    clear hz
    go_enter Try.func5, Try.ntmps5
    go_wp2_with (go_at_call 8; refine (works_any _).mono ?_; rintro e w' ⟨rfl, hb⟩)
    go_ret
    exact ⟨rfl, hb⟩
  have hz' : (W bu == 0) = false := by simp [hz]
  have HZ : Hid (bu ≠ 0#32) := fun h => hz (by rw [h]; rfl)
  have HR : Hid (ReadsV w (.slice a0 len0 cap0) l) := hr
  have HL : Hid (l.length = len0) := hl.symm
  clear hz hr hl
  obtain ⟨K, hK, hK4⟩ := place a1 len0 (by omega)
  go_enter Try.func5, Try.ntmps5
  go_wp2_with (first
    | (at_builtin; refine wpList_append_some rfl (.tmp 31) (.tmp 32) 22 rfl w.heap.size 5 Try.underlying22 Try.info5 _ [] rfl (World.ownsRow_nil _ _ _ _) _ l rfl HR.out (by have := HL.out; simp; omega) (Nat.le_refl _) len0 HL.out (by omega) ?_; intro g cap w1 hown1 hg1; have O1 : Hid (w1.ownsRow w.heap.size 5 1 (.slice (some ⟨g, 0, none⟩) len0 cap) len0 (bytesV l)) := hown1; have B1 : Hid (Below w.heap.size w w1) := below_nil hg1; clear hown1 hg1)
    | fail)
  have hgl : Hid (w.heap.size ≤ g) := (O1.out.lt g rfl).1
  go_loopw [9] (fun i wr => ∃ j : Nat, j ≤ 4 ∧ i = .int .i64 j ∧ wr.ownsRow w.heap.size 5 1 (.slice (some ⟨g, 0, none⟩) len0 cap) len0 (bytesV (tn l K bu j)) ∧ Below w.heap.size w wr) (fun i _ => 4 - (intOf i).toNat)
  case atStart => exact ⟨0, Nat.zero_le _, rfl, O1.out, B1.out⟩
  case round =>
    obtain ⟨j, hj, rfl, hown, hB⟩ := hrel
    have HO : Hid (wr.ownsRow w.heap.size 5 1 (.slice (some ⟨g, 0, none⟩) len0 cap) len0 (bytesV (tn l K bu j))) := hown
    have HB : Hid (Below w.heap.size w wr) := hB
    clear hown hB
    by_cases hlt : j < 4
    · have hc : wr.cell? ⟨g, K + j, none⟩ = some (.int .u8 (B (nth (tn l K bu j) (K + j)))) := (World.ownsRow.cellAt HO.out (K + j) (by omega)).trans (bytesV_at (by rw [tn_len, HL.out]; omega))
      have hf : wr.frozen? ⟨g, K + j, none⟩ = false := World.ownsRow.frozenAt HO.out (K + j)
      have HT := Hid.out (show Hid _ from rel_turn HO.out HB.out hgl.out)
      have R : Hid _ := HT
      clear HT
      go_wp2
      go_region
      all_goals
        go_wp2
        go_roundw
        case rel => exact ⟨j + 1, by omega, by go_num, (Hid.out R).1, (Hid.out R).2⟩
        case measure => simp [intOf]; omega
    · have hj4 : j = 4 := by omega
      subst hj4
      have hne : (W (sum l) != W (sum (tn l K bu 4))) = true := turned_ne l K bu (by rw [HL.out]; exact hK4) HZ.out
      have HT : Hid (ReadsV wr (.slice (some ⟨g, 0, none⟩) len0 cap) (tn l K bu 4)) := by
        refine ReadsV.of_own (base := w.heap.size) (e := 5) ?_
        rw [tn_len, HL.out]
        exact HO.out
      go_wp2_with (first
        | (go_at_call 9; refine (sum_row _ l _ (HR.out.below HB.out)).mono ?_; rintro e w' ⟨rfl, rfl⟩)
        | (go_at_call 9; refine (sum_row _ (tn l K bu 4) _ HT.out).mono ?_; rintro e w' ⟨rfl, rfl⟩)
        | (go_at_call 8; refine (works_any _).mono ?_; rintro e w3 ⟨rfl, hb⟩))
      go_ret
      exact ⟨rfl, HB.out.trans (hb.mono HB.out.size)⟩

/-! ### THE ROW's STEP: WRITTEN OUT: LEAVE IT -/
set_option maxRecDepth 100000 in
theorem lifted (os : Os) (started : os.Started) (H : Type) (enc : TypeId × Value → H) :
    ReturnsInHanded {} Try.checked os 5 .any (Rows.crcTellsSpec.pre6 enc Try.prog Try.f5 Rows.crcTellsRow.domain false) (Rows.crcTellsSpec.post enc Try.prog Try.f5 false true false false) := by
  refine returnsInHanded_of_change (C := Try.checked) own started (by kernel_rfl) Try.func5
    (ChangeSpec.witness6 (enc := enc) (C := Try.checked) false ⟨#[], #[.slice none 0 0, .int .i64 0, .int .u32 0], []⟩ 8 (by kernel_rfl) (by kernel_rfl) (by kernel_rfl) (by kernel_rfl)) ?_
  intro W base args ds gs before hval0 hW hcnd _
  have hval : ∀ (j : Nat) t v, Try.f5.params[j]? = some t → args[j]? = some v → Value.okWide Try.prog W .any base t v := hval0
  have hW' := hW
  obtain ⟨p, q, hA0, hV, rfl, hfz, hnd⟩ := hW
  have hA : DataW.TrodAll enc Try.prog W 0 (fun _ => true) true Try.f5.params.toList args.toList ds p := hA0
  rw [Try.params5] at hA hval
  obtain ⟨v0, vs0, d0, ds0, p0, q0, hargs, rfl, rfl, h0, r0⟩ := trodAll_cons hA
  obtain ⟨v1, vs1, d1, ds1, p1, q1, rfl, rfl, rfl, h1, r1⟩ := trodAll_cons r0
  obtain ⟨v2, vs2, d2, ds2, p2, q2, rfl, rfl, rfl, h2, r2⟩ := trodAll_cons r1
  obtain ⟨rfl, rfl, rfl⟩ := trodAll_nil r2
  obtain rfl : args = #[v0, v1, v2] := by cases args; simp_all
  obtain ⟨rfl, rfl⟩ := trodVars_none hV
  obtain ⟨a0, len0, cap0, rfl⟩ := okWide_slice Try.underlying22 (hval 0 22 v0 rfl rfl)
  have k0 := h0
  have lt0 : ∀ x ∈ p0, x.block < W.heap.size := by obtain ⟨m, hm⟩ := k0; exact DataW.trod_lt m _ _ _ hm
  obtain ⟨z0, w0⟩ : ∃ zs, IsRow .u8 W a0 len0 cap0 zs := by
    obtain ⟨fuel, hf⟩ := h0
    rcases open_ints Try.underlying22 Try.underlying5 (by kernel_rfl) hf with ⟨hcs, _⟩ | ⟨x, l, c, zs, hcs, _, hl, hm, hz, _, hcell, hwz⟩
    · simp [Value.cells] at hcs
      obtain ⟨rfl, rfl, rfl⟩ := hcs
      exact ⟨[], .inl ⟨rfl, rfl, rfl, rfl⟩⟩
    · simp [Value.cells] at hcs
      obtain ⟨rfl, rfl, rfl⟩ := hcs
      exact ⟨zs, .inr ⟨_, rfl, hl, hm, by simpa using hz, hcell, hwz⟩⟩
  obtain ⟨a1, rfl, rfl, rfl, w1⟩ := open_int Try.underlying3 (hval 1 3 v1 rfl rfl) h1
  obtain ⟨a2, rfl, rfl, rfl, w2⟩ := open_int Try.underlying24 (hval 2 24 v2 rfl rfl) h2
  clear hA0 hval0
  refine (walk a0 len0 cap0 z0 a1 a2 W w0 w1 w2).mono fun e W' ⟨he, bel⟩ => ?_
  subst he
  exact ⟨_, rfl, _, _, _, [], _, [], hW', trodAll_mk1 (shut_bool Try.underlying4 _), (trodAll_cons_mk (Below.trod laidOut (by kernel_rfl) (of_decide_eq_true (by kernel_rfl)) k0 bel lt0) (trodAll_cons_mk (shut_int Try.underlying3 w1) (trodAll_cons_mk (shut_int Try.underlying24 w2) trodAll_mk0))), rfl, bel.frame _, fun h => by cases h⟩

theorem over : Rows.crcTellsRow.holds Try.pinned (OpenSpec.ofChange Rows.crcTellsSpec) :=
  OpenClaim.holds_of_wide 5 Try.f5 rfl rfl rfl rfl rfl rfl rfl ⟨rfl, rfl, rfl, rfl, rfl⟩ rfl rfl rfl rfl rfl (by kernel_rfl) Try.func5 (by kernel_rfl)
    (of_decide_eq_true (by kernel_rfl)) (by unfold Func.isWrapper; first | (rw [if_pos (by decide +kernel)]; kernel_rfl) | (rw [if_neg (by decide +kernel)]; exact ⟨rfl, rfl⟩))
    (fun os started H enc _ => lifted os started H enc)

/-- ████ THE STATEMENT ████ -/
theorem proved : Rows.CrcTellsSaid := over
#print axioms proved
end Go.Proofs.Ytkopmmpmjjbghaa.crcTells
