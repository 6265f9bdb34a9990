/-
  The document's own Sum, by the long division: it returns what the plain mathematics says.
-/
import Derived.Test.YtcaddedkodjgcaaCrb
namespace Go.Proofs.Ytcaddedkodjgcaa
open Go.RowKit Crc

theorem reads_zero (w : World) (e : TypeId) : ReadsV (w.alloc (.cells #[.int .u8 0] e)) (.slice (some ⟨w.heap.size, 0, none⟩) 1 1) [0#8] := reads_one w 0#8 e
theorem own_form {w : World} {base n : Nat} {v : Value} {xs : List Value} (h : w.ownsRow base 5 1 v n xs) (hp : 0 < n) : ∃ g cap, v = .slice (some ⟨g, 0, none⟩) n cap := by
  rcases h.2 with ⟨_, h0⟩ | ⟨g, cap, _, hv, _⟩
  · omega
  · exact ⟨g, cap, hv⟩
theorem zero_snoc (l : List (BitVec 8)) (n i : Nat) (hn : l.length = n) : row (M l) (8 * n + (i + 1)) = row (M l) (8 * n + i) ++ [0#8] := by
  rw [show 8 * n + (i + 1) = 8 * n + i + 1 by omega, row_snoc]
  have : M l (8 * n + i) = false := by unfold M; rw [if_neg (by omega)]
  rw [this]; rfl

theorem bb_range (c : Bool) : 0 ≤ B (bb c) ∧ B (bb c) ≤ 1 := by cases c <;> decide
theorem bytesV_set (l : List (BitVec 8)) (i : Nat) (b : BitVec 8) : bytesV (l.set i b) = (bytesV l).set i (.int .u8 (B b)) := by simp [bytesV, List.map_set]

/-- A bit of an owned row. -/
theorem row_cell {w : World} {base g N cap : Nat} {f : Nat → Bool} (h : w.ownsRow base 5 1 (.slice (some ⟨g, 0, none⟩) N cap) N (bytesV (row f N))) (j : Nat) (hj : j < N) : w.cell? ⟨g, j, none⟩ = some (.int .u8 (B (bb (f j)))) := by
  rw [World.ownsRow.cellAt h j (by omega), bytesV_at (by rw [row_len]; exact hj), nth_row f N j hj]
/-- A bit stored. -/
theorem row_store {w : World} {base g N cap : Nat} {f : Nat → Bool} (h : w.ownsRow base 5 1 (.slice (some ⟨g, 0, none⟩) N cap) N (bytesV (row f N))) (f' : Nat → Bool) (j : Nat) (hf : ∀ k, k ≠ j → f' k = f k) (x : Int) (hx : x = B (bb (f' j))) :
    (w.setCell ⟨g, j, none⟩ (.int .u8 x)).ownsRow base 5 1 (.slice (some ⟨g, 0, none⟩) N cap) N (bytesV (row f' N)) := by
  rw [← row_set f f' N j hf, bytesV_set, hx]
  exact (World.ownsRow.stored h j _).1

theorem flip_value (l : List (BitVec 8)) (i : Nat) : 1 - B (bb (F2 l i i)) = B (bb (F2 l (i + 1) i)) := by
  unfold F2
  rw [if_neg (by omega), if_pos (by omega)]
  cases M l i <;> decide
theorem flip_other (l : List (BitVec 8)) (i : Nat) : ∀ k, k ≠ i → F2 l (i + 1) k = F2 l i k := by
  intro k hk
  unfold F2
  by_cases h : k < i
  · rw [if_pos (by omega), if_pos h]
  · rw [if_neg (by omega), if_neg h]
theorem flip_none (l : List (BitVec 8)) : F2 l 0 = M l := by funext j; unfold F2; rw [if_neg (by omega)]

theorem G_none (f : Nat → Bool) (i : Nat) : G f i 0 = f := by
  funext j
  unfold G
  rw [decide_eq_false (show ¬ (i ≤ j ∧ j < i + 0) by omega)]
  simp
theorem F3_no {l : List (BitVec 8)} {i : Nat} (h : F3 l i i = false) : F3 l (i + 1) = F3 l i := by simp [F3, h]
theorem F3_yes {l : List (BitVec 8)} {i : Nat} (h : F3 l i i = true) : F3 l (i + 1) = G (F3 l i) i 33 := by simp [F3, h]
theorem G_other (f : Nat → Bool) (i k : Nat) : ∀ j, j ≠ i + k → G f i (k + 1) j = G f i k j := by
  intro j hj
  unfold G
  have : (i ≤ j ∧ j < i + (k + 1)) ↔ (i ≤ j ∧ j < i + k) := by omega
  rw [decide_eq_decide.2 this]

theorem poly_value (k : Nat) (h : k < 33) : bits .and .u64 (4374732215 / 2 ^ (32 - k)) 1 % 256 = B (bb (poly k)) := by
  have : ∀ k : Fin 33, bits .and .u64 (4374732215 / 2 ^ (32 - k.1)) 1 % 256 = B (bb (poly k.1)) := by decide +kernel
  exact this ⟨k, h⟩
theorem bb_xor (a b : Bool) : bits .xor .u8 (B (bb a)) (B (bb b)) = B (bb (a ^^ b)) := by
  rw [xor_B]
  cases a <;> cases b <;> decide
theorem div_value (f : Nat → Bool) (i k : Nat) (h : k < 33) : bits .xor .u8 (B (bb (G f i k (i + k)))) (bits .and .u64 (4374732215 / 2 ^ (32 - k)) 1 % 256) = B (bb (G f i (k + 1) (i + k))) := by
  rw [poly_value k h, bb_xor]
  congr 2
  unfold G
  have e1 : decide (i ≤ i + k ∧ i + k < i + k) = false := by simp
  have e2 : decide (i ≤ i + k ∧ i + k < i + (k + 1)) = true := by simp
  rw [e1, e2, show i + k - i = k by omega]
  simp

theorem or_value (r : BitVec 32) (i : Nat) (h : i < 32) : bits .or .u32 (W r) (2 ^ i % 4294967296) = W (r ||| (1#32 <<< i)) := by
  have : ∀ i : Fin 32, (2 : Int) ^ i.1 % 4294967296 = ((1#32 <<< i.1).toNat : Int) := by decide +kernel
  rw [this ⟨i, h⟩]
  exact or_word r _
theorem read_yes {f : Nat → Bool} {n i : Nat} (h : f (n + i) = true) : Crc.read f n (i + 1) = Crc.read f n i := by simp [Crc.read, h]
theorem read_no {f : Nat → Bool} {n i : Nat} (h : f (n + i) = false) : Crc.read f n (i + 1) = Crc.read f n i ||| (1#32 <<< i) := by simp [Crc.read, h]

set_option maxRecDepth 100000 in
set_option maxHeartbeats 2000000 in
theorem refsum_any (v : Value) (l : List (BitVec 8)) (w : World) (hr : ReadsV w v l) (hlen : l.length ≤ 1000000) :
    Calls Try.prog 38 #[v] w fun e w' => e = .returned (.int .u32 (W (sum l))) ∧ Below w.heap.size w w' := by
  obtain ⟨n, hl⟩ : ∃ n, l.length = n := ⟨_, rfl⟩
  have HR : Hid (ReadsV w v l) := hr
  have HL : Hid (l.length = n) := hl
  have hn : n ≤ 1000000 := by omega
  have HLE : Hid (l.length ≤ 1000000) := hlen
  clear hr hl hlen
  go_enter Try.func38, Try.ntmps38
  go_wp2_with (go_at_call 52; refine (bits_any v l _ HR.out HLE.out).mono ?_; rintro e w1 ⟨v1, rfl, hown1, hB1⟩; have O1 : Hid (w1.ownsRow w.heap.size 5 1 v1 (row (M l) (8 * l.length)).length (bytesV (row (M l) (8 * l.length)))) := hown1; have B1 : Hid (Below w.heap.size w w1) := hB1; clear hown1 hB1)
  go_loopw [3, 4] (fun v i wr => ∃ i' : Nat, i' ≤ 32 ∧ i = .int .i64 i' ∧ wr.ownsRow w.heap.size 5 1 v (row (M l) (8 * n + i')).length (bytesV (row (M l) (8 * n + i'))) ∧ Below w.heap.size w wr) (fun _ i _ => 32 - (intOf i).toNat)
  case atStart => exact ⟨0, Nat.zero_le _, rfl, by have h := O1.out; rw [HL.out] at h; exact h, B1.out⟩
  case round =>
    clear O1 B1
    obtain ⟨i, hi, rfl, hown, hB⟩ := hrel
    have HO : Hid (wr.ownsRow w.heap.size 5 1 u3 (row (M l) (8 * n + i)).length (bytesV (row (M l) (8 * n + i)))) := hown
    have HB : Hid (Below w.heap.size w wr) := hB
    clear hown hB
    by_cases hlt : i < 32
    · have HS : Hid (row (M l) (8 * n + (i + 1)) = row (M l) (8 * n + i) ++ [0#8]) := zero_snoc l n i HL.out
      have HN1 : Hid ((row (M l) (8 * n + i)).length + [0#8].length ≤ 140737488355328) := by show (row (M l) (8 * n + i)).length + 1 ≤ 140737488355328; rw [row_len]; omega
      go_wp2_with (at_builtin; refine wpList_append_row rfl (.tmp 17) (.tmp 18) 27 rfl w.heap.size 5 Try.underlying27 Try.info5 _ (row (M l) (8 * n + i)) rfl (World.ownsRow.alloc HO.out _) _ [0#8] rfl (reads_zero _ _) HN1.out (base_le HB.out.size _) ?_; intro v1 w1 hown1 hg1; have O1 : Hid (w1.ownsRow w.heap.size 5 1 v1 (row (M l) (8 * n + i) ++ [0#8]).length (bytesV (row (M l) (8 * n + i) ++ [0#8]))) := hown1; have B1 : Hid (Below w.heap.size w w1) := rel_step HB.out HO.out hg1; clear hown1 hg1)
      go_roundw
      case rel => exact ⟨i + 1, by omega, by go_num, by rw [HS.out]; exact O1.out, B1.out⟩
      case measure => simp [intOf]; omega
    · have hi32 : i = 32 := by omega
      subst hi32
      have HO' : Hid (wr.ownsRow w.heap.size 5 1 u3 (8 * n + 32) (bytesV (row (M l) (8 * n + 32)))) := by have h := HO.out; rw [row_len] at h; exact h
      clear HO
      obtain ⟨g, cap, hv⟩ := own_form HO'.out (by omega)
      subst hv
      go_wp2
      have hgl : Hid (w.heap.size ≤ g) := (HO'.out.lt g rfl).1
      go_loopw [5] (fun i wr => ∃ i' : Nat, i' ≤ 32 ∧ i = .int .i64 i' ∧ wr.ownsRow w.heap.size 5 1 (.slice (some ⟨g, 0, none⟩) (8 * n + 32) cap) (8 * n + 32) (bytesV (row (F2 l i') (8 * n + 32))) ∧ Below w.heap.size w wr) (fun i _ => 32 - (intOf i).toNat)
      case atStart => exact ⟨0, Nat.zero_le _, rfl, by rw [flip_none]; exact HO'.out, HB.out⟩
      case round =>
        clear HO' HB
        obtain ⟨i, hi, rfl, hown, hB⟩ := hrel
        have HO : Hid (wr.ownsRow w.heap.size 5 1 (.slice (some ⟨g, 0, none⟩) (8 * n + 32) cap) (8 * n + 32) (bytesV (row (F2 l i) (8 * n + 32)))) := hown
        have HB : Hid (Below w.heap.size w wr) := hB
        clear hown hB
        by_cases hlt : i < 32
        · have hc : wr.cell? ⟨g, i, none⟩ = some (.int .u8 (B (bb (F2 l i i)))) := row_cell HO.out i (by omega)
          have hf : wr.frozen? ⟨g, i, none⟩ = false := World.ownsRow.frozenAt HO.out i
          obtain ⟨hb0, hb1⟩ := bb_range (F2 l i i)
          have hin : (i : Int) < 8 * (n : Int) + 32 := by omega
          have R1 : Hid _ := row_store HO.out (F2 l (i + 1)) i (flip_other l i) _ (flip_value l i)
          have R2 : Hid _ := HB.out.setCell (p := ⟨g, i, none⟩) hgl.out (.int .u8 (1 - B (bb (F2 l i i))))
          go_wp2
          go_roundw
          case rel => exact ⟨i + 1, by omega, by go_num, R1.out, R2.out⟩
          case measure => simp [intOf]; omega
        · have hi32 : i = 32 := by omega
          subst hi32
          go_wp2
          go_loopw [7] (fun i wr => ∃ i' : Nat, i' ≤ 8 * n ∧ i = .int .i64 i' ∧ wr.ownsRow w.heap.size 5 1 (.slice (some ⟨g, 0, none⟩) (8 * n + 32) cap) (8 * n + 32) (bytesV (row (F3 l i') (8 * n + 32))) ∧ Below w.heap.size w wr) (fun i _ => 8 * n - (intOf i).toNat)
          case atStart => exact ⟨0, Nat.zero_le _, rfl, HO.out, HB.out⟩
          case round =>
            clear HO HB
            obtain ⟨i, hi, rfl, hown, hB⟩ := hrel
            have HO : Hid (wr.ownsRow w.heap.size 5 1 (.slice (some ⟨g, 0, none⟩) (8 * n + 32) cap) (8 * n + 32) (bytesV (row (F3 l i) (8 * n + 32)))) := hown
            have HB : Hid (Below w.heap.size w wr) := hB
            clear hown hB
            by_cases hlt : i < 8 * n
            · have hin : (i : Int) < 8 * (n : Int) + 32 := by omega
              cases hbit : F3 l i i with
              | false =>
                have hc : wr.cell? ⟨g, i, none⟩ = some (.int .u8 0) := by have h := row_cell HO.out i (by omega); rw [hbit] at h; exact h
                have HF : Hid (F3 l (i + 1) = F3 l i) := F3_no hbit
                clear hbit
                go_wp2
                go_roundw
                case rel => exact ⟨i + 1, by omega, by go_num, by rw [HF.out]; exact HO.out, HB.out⟩
                case measure => simp [intOf]; omega
              | true =>
                have hc : wr.cell? ⟨g, i, none⟩ = some (.int .u8 1) := by have h := row_cell HO.out i (by omega); rw [hbit] at h; exact h
                have HF : Hid (F3 l (i + 1) = G (F3 l i) i 33) := F3_yes hbit
                clear hbit
                go_wp2
                go_loopw [8] (fun k wr => ∃ k' : Nat, k' ≤ 33 ∧ k = .int .i64 k' ∧ wr.ownsRow w.heap.size 5 1 (.slice (some ⟨g, 0, none⟩) (8 * n + 32) cap) (8 * n + 32) (bytesV (row (G (F3 l i) i k') (8 * n + 32))) ∧ Below w.heap.size w wr) (fun k _ => 33 - (intOf k).toNat)
                case atStart => exact ⟨0, Nat.zero_le _, rfl, by rw [G_none]; exact HO.out, HB.out⟩
                case round =>
                  clear HO HB hc
                  obtain ⟨k, hk, rfl, hown, hB⟩ := hrel
                  have HO : Hid (wr.ownsRow w.heap.size 5 1 (.slice (some ⟨g, 0, none⟩) (8 * n + 32) cap) (8 * n + 32) (bytesV (row (G (F3 l i) i k) (8 * n + 32)))) := hown
                  have HB : Hid (Below w.heap.size w wr) := hB
                  clear hown hB
                  by_cases hlk : k < 33
                  · have hc : wr.cell? ⟨g, i + k, none⟩ = some (.int .u8 (B (bb (G (F3 l i) i k (i + k))))) := row_cell HO.out (i + k) (by omega)
                    have hf : wr.frozen? ⟨g, i + k, none⟩ = false := World.ownsRow.frozenAt HO.out (i + k)
                    have R1 : Hid _ := World.ownsRow.drew (row_store HO.out (G (F3 l i) i (k + 1)) (i + k) (G_other (F3 l i) i k) _ (div_value (F3 l i) i k hlk))
                    have R2 : Hid _ := (HB.out.setCell (p := ⟨g, i + k, none⟩) hgl.out (.int .u8 (bits .xor .u8 (B (bb (G (F3 l i) i k (i + k)))) (bits .and .u64 (4374732215 / 2 ^ (32 - k)) 1 % 256)))).drew
                    go_wp2
                    go_region
                    all_goals
                      go_wp2
                      go_roundw
                      case rel => exact ⟨k + 1, by omega, by go_num, R1.out, R2.out⟩
                      case measure => simp [intOf]; omega
                  · have hk33 : k = 33 := by omega
                    subst hk33
                    go_wp2
                    go_roundw
                    case rel => exact ⟨i + 1, by omega, by go_num, by rw [HF.out]; exact HO.out, HB.out⟩
                    case measure => simp [intOf]; omega
            · have hin : i = 8 * n := by omega
              subst hin
              go_wp2
              go_loopw [9, 10] (fun s i wr' => ∃ i' : Nat, i' ≤ 32 ∧ i = .int .i64 i' ∧ s = .int .u32 (W (read (F3 l (8 * n)) (8 * n) i')) ∧ wr' = wr) (fun _ i _ => 32 - (intOf i).toNat)
              case atStart => exact ⟨0, Nat.zero_le _, rfl, rfl, rfl⟩
              case round =>
                obtain ⟨i, hi, rfl, rfl, rfl⟩ := hrel
                by_cases hlt : i < 32
                · have hin : (i : Int) < 32 := by omega
                  cases hbit : F3 l (8 * n) (8 * n + i) with
                  | true =>
                    have hc : wr.cell? ⟨g, 8 * n + i, none⟩ = some (.int .u8 1) := by have h := row_cell HO.out (8 * n + i) (by omega); rw [hbit] at h; exact h
                    have HF : Hid _ := read_yes hbit
                    clear hbit
                    go_wp2
                    go_roundw
                    case rel => exact ⟨i + 1, by omega, by go_num, by rw [HF.out], trivial⟩
                    case measure => simp [intOf]; omega
                  | false =>
                    have hc : wr.cell? ⟨g, 8 * n + i, none⟩ = some (.int .u8 0) := by have h := row_cell HO.out (8 * n + i) (by omega); rw [hbit] at h; exact h
                    have HF : Hid _ := read_no hbit
                    clear hbit
                    go_wp2
                    go_roundw
                    case rel => exact ⟨i + 1, by omega, by go_num, by rw [HF.out]; exact val_int (or_value _ i hlt), trivial⟩
                    case measure => simp [intOf]; omega
                · have hi32 : i = 32 := by omega
                  subst hi32
                  go_wp2
                  go_ret
                  exact ⟨ret_int (by have h := read_sum l; rw [HL.out] at h; rw [h]), HB.out⟩

end Go.Proofs.Ytcaddedkodjgcaa
