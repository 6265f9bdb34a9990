/-
  The document's own function bits: a text's bits as a row of bytes, each byte's lowest first.
-/
import Derived.Test.YtcaddedkodjgcaaClo
import Derived.Test.YtcaddedkodjgcaaCow
namespace Go.Proofs.Ytcaddedkodjgcaa
open Go.RowKit Crc

def bb (c : Bool) : BitVec 8 := if c then 1#8 else 0#8
def row (f : Nat → Bool) (n : Nat) : List (BitVec 8) := (List.range n).map fun j => bb (f j)

theorem row_len (f : Nat → Bool) (n : Nat) : (row f n).length = n := by simp [row]
theorem row_snoc (f : Nat → Bool) (n : Nat) : row f (n + 1) = row f n ++ [bb (f n)] := by simp [row, List.range_succ]
theorem nth_row (f : Nat → Bool) (n j : Nat) (h : j < n) : nth (row f n) j = bb (f j) := by simp [row, nth, h]
theorem row_congr {f g : Nat → Bool} {n : Nat} (h : ∀ j, j < n → f j = g j) : row f n = row g n := by
  unfold row
  apply List.map_congr_left
  intro j hj
  rw [h j (List.mem_range.1 hj)]
theorem row_set (f g : Nat → Bool) (n i : Nat) (hg : ∀ j, j ≠ i → g j = f j) : (row f n).set i (bb (g i)) = row g n := by
  apply List.ext_getElem
  · simp [row]
  · intro j h1 h2
    rw [List.getElem_set]
    by_cases h : i = j
    · subst h; simp [row]
    · simp [row, h, hg j (by omega)]

theorem bit_value (l : List (BitVec 8)) (i k : Nat) (hi : i < l.length) (hk : k < 8) : bits .and .u8 (B (nth l i) / 2 ^ k) 1 = B (bb (M l (8 * i + k))) := by
  have hm : M l (8 * i + k) = (nth l i).getLsbD k := by
    unfold M
    rw [if_pos (by omega), show (8 * i + k) / 8 = i by omega, show (8 * i + k) % 8 = k by omega]
  rw [hm]
  unfold B
  rw [shr_byte]
  have := and_byte (nth l i >>> k) 1#8
  rw [show ((1#8).toNat : Int) = 1 from rfl] at this
  rw [this]
  congr 2
  apply BitVec.eq_of_getLsbD_eq
  intro j hj
  rw [BitVec.getLsbD_and, BitVec.getLsbD_ushiftRight]
  unfold bb
  cases j with
  | zero => cases h : (nth l i).getLsbD k <;> simp_all
  | succ j => cases h : (nth l i).getLsbD k <;> simp [BitVec.getLsbD_one]

theorem rel_step {w wr w1 : World} {v : Value} {o : Obj} {n : Nat} {xs : List Value} (hB : Below w.heap.size w wr) (ho : wr.ownsRow w.heap.size 5 1 v n xs) (hg : (wr.alloc o).grownBy w1 v.ownBlock) : Below w.heap.size w w1 :=
  (hB.alloc hB.size o).grown hg (base_le hB.size o) (fun k hk => (ho.lt k hk).1)

set_option maxRecDepth 100000 in
set_option maxHeartbeats 1000000 in
theorem bits_any (v : Value) (l : List (BitVec 8)) (w : World) (hr : ReadsV w v l) (hlen : l.length ≤ 1000000) :
    Calls Try.prog 52 #[v] w fun e w' => ∃ v', e = .returned v' ∧ w'.ownsRow w.heap.size 5 1 v' (row (M l) (8 * l.length)).length (bytesV (row (M l) (8 * l.length))) ∧ Below w.heap.size w w' := by
  obtain ⟨a, cap, rfl, hn, hcp, hcm, hr⟩ := hr
  obtain ⟨n, hl⟩ : ∃ n, l.length = n := ⟨_, rfl⟩
  have HR : Hid (ReadsV w (.slice a l.length cap) l) := ⟨a, cap, rfl, hn, hcp, hcm, hr⟩
  rw [hl] at HR hlen ⊢
  have HL : Hid (l.length = n) := hl
  clear hl hn hr hcp hcm
  rcases Nat.eq_zero_or_pos n with hz | hpos
  · subst hz
    go_enter Try.func52, Try.ntmps52
    go_wp2
    refine wp_loop_rounds 1 ?_
    rw [rounds_succ]
    go_wp2
    go_ret
    exact ⟨_, rfl, World.ownsRow_nil _ _ _ _, Below.refl _ _⟩
  · obtain ⟨b, off, rfl, hb, hc⟩ := cells_of HR.out hpos
    go_enter Try.func52, Try.ntmps52
    go_wp2
    go_loopw [3, 4] (fun v i wr => ∃ i' : Nat, i' ≤ n ∧ i = .int .i64 i' ∧ wr.ownsRow w.heap.size 5 1 v (row (M l) (8 * i')).length (bytesV (row (M l) (8 * i'))) ∧ Below w.heap.size w wr) (fun _ i _ => n - (intOf i).toNat)
    case atStart => exact ⟨0, Nat.zero_le _, rfl, World.ownsRow_nil _ _ _ _, Below.refl _ _⟩
    case round =>
      obtain ⟨i, hi, rfl, hown, hB⟩ := hrel
      have HO : Hid (wr.ownsRow w.heap.size 5 1 u3 (row (M l) (8 * i)).length (bytesV (row (M l) (8 * i)))) := hown
      have HB : Hid (Below w.heap.size w wr) := hB
      clear hown hB
      by_cases hlt : i < n
      · go_wp2
        go_loopw [3, 5] (fun v k wr => ∃ k' : Nat, k' ≤ 8 ∧ k = .int .i64 k' ∧ wr.ownsRow w.heap.size 5 1 v (row (M l) (8 * i + k')).length (bytesV (row (M l) (8 * i + k'))) ∧ Below w.heap.size w wr) (fun _ k _ => 8 - (intOf k).toNat)
        case atStart => exact ⟨0, Nat.zero_le _, rfl, HO.out, HB.out⟩
        case round =>
          clear HO HB
          obtain ⟨k, hk, rfl, hown, hB⟩ := hrel
          have HO : Hid (wr.ownsRow w.heap.size 5 1 u3 (row (M l) (8 * i + k)).length (bytesV (row (M l) (8 * i + k)))) := hown
          have HB : Hid (Below w.heap.size w wr) := hB
          clear hown hB
          by_cases hlk : k < 8
          · have g0 : wr.cell? ⟨b, off + i, none⟩ = some (.int .u8 (B (nth l i))) := (HB.out.cell (by exact hb)).trans (hc i hlt)
            obtain ⟨hb0, hb1⟩ := B_range (nth l i)
            have hv := bit_value l i k (by rw [HL.out]; exact hlt) hlk
            have HS : Hid (row (M l) (8 * i + (k + 1)) = row (M l) (8 * i + k) ++ [bb (M l (8 * i + k))]) := row_snoc _ _
            have HN1 : Hid ((row (M l) (8 * i + k)).length + [bb (M l (8 * i + k))].length ≤ 140737488355328) := by show (row (M l) (8 * i + k)).length + 1 ≤ 140737488355328; rw [row_len]; omega
            go_wp2_with (at_builtin; refine wpList_append_row rfl (.tmp 16) (.tmp 24) 27 rfl w.heap.size 5 Try.underlying27 Try.info5 _ (row (M l) (8 * i + k)) rfl (World.ownsRow.alloc HO.out _) _ [bb (M l (8 * i + k))] rfl (reads_one _ _ _) HN1.out (base_le HB.out.size _) ?_; intro v1 w1 hown1 hg1; have O1 : Hid (w1.ownsRow w.heap.size 5 1 v1 (row (M l) (8 * i + k) ++ [bb (M l (8 * i + k))]).length (bytesV (row (M l) (8 * i + k) ++ [bb (M l (8 * i + k))]))) := hown1; have B1 : Hid (Below w.heap.size w w1) := rel_step HB.out HO.out hg1; clear hown1 hg1)
            go_roundw
            case rel => exact ⟨k + 1, by omega, by go_num, by rw [HS.out]; exact O1.out, B1.out⟩
            case measure => simp [intOf]; omega
          · have hk8 : k = 8 := by omega
            subst hk8
            go_wp2
            go_roundw
            case rel => exact ⟨i + 1, by omega, by go_num, HO.out, HB.out⟩
            case measure => simp [intOf]; omega
      · have hin : i = n := by omega
        subst hin
        go_wp2
        go_ret
        exact ⟨_, rfl, HO.out, HB.out⟩

end Go.Proofs.Ytcaddedkodjgcaa
