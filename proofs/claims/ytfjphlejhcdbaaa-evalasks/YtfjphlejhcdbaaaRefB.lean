/-
  A tree that was read has kinds throughout.
-/
import Derived.Test.YtfjphlejhcdbaaaLexA
import Derived.Test.YtfjphlejhcdbaaaTxtA
import Derived.Test.YtfjphlejhcdbaaaWeigh
import Derived.Test.YtfjphlejhcdbaaaNode
namespace Go.Proofs.Ytfjphlejhcdbaaa
section
set_option linter.unusedVariables false



def Kd : Nat → Tr → Prop
  | 0, _ => False
  | d + 1, t => t.kind ≠ 0 ∧ ∀ x ∈ t.kids, Kd d x
theorem Kd.mono : ∀ {d e : Nat} {t : Tr}, d ≤ e → Kd d t → Kd e t
  | 0, _, _, _, h => h.elim
  | d + 1, 0, _, h, _ => by omega
  | d + 1, e + 1, t, h, ⟨h1, h2⟩ => ⟨h1, fun x hx => Kd.mono (by omega) (h2 x hx)⟩
def KT (t : Tr) : Prop := ∃ d, Kd d t
theorem KT.leaf {k n : Int} {m : Bs} (h : k ≠ 0) : KT ⟨k, n, m, []⟩ := ⟨1, h, fun x hx => by simp at hx⟩
theorem KT.one {k : Int} {x : Tr} (h : k ≠ 0) (hx : KT x) : KT ⟨k, 0, [], [x]⟩ := by
  obtain ⟨d, hd⟩ := hx
  exact ⟨d + 1, h, fun y hy => by simp at hy; rw [hy]; exact hd⟩
theorem KT.kid {t x : Tr} (h : KT t) (hx : x ∈ t.kids) : KT x := by
  obtain ⟨d, hd⟩ := h
  cases d with
  | zero => exact hd.elim
  | succ d => exact ⟨d, hd.2 x hx⟩
theorem KT.ne {t : Tr} (h : KT t) : t ≠ zeroT := by
  obtain ⟨d, hd⟩ := h
  cases d with
  | zero => exact hd.elim
  | succ d => rintro rfl; exact hd.1 rfl
theorem KT.named (t : Bs) : KT (named t) := by
  unfold Go.Proofs.Ytfjphlejhcdbaaa.named
  split
  · exact .leaf (by decide)
  · split
    · exact .leaf (by decide)
    · exact .leaf (by decide)
end
section
section
open Go.RowKit Go.Maps
set_option linter.unusedVariables false



theorem WordsV.empty {w : World} {v : Value} (h : WordsV w v []) : ∃ a cap, v = .slice a 0 cap := by
  obtain ⟨a, cap, h1, _⟩ := h
  exact ⟨a, cap, h1⟩
end
section
open Go.RowKit Go.Maps
set_option linter.unusedVariables false
def sgnR (i : Nat) : UInt8 := signs.getD i 0
theorem signs_at (i : Nat) (h : i < 11) : (#[Value.int .u8 43, .int .u8 45, .int .u8 42, .int .u8 47, .int .u8 61, .int .u8 60, .int .u8 40, .int .u8 41, .int .u8 38, .int .u8 124, .int .u8 33] : Array Value)[i]? = some (.int .u8 (sgnR i).toNat) := by
  match i, h with
  | 0, _ | 1, _ | 2, _ | 3, _ | 4, _ | 5, _ | 6, _ | 7, _ | 8, _ | 9, _ | 10, _ => rfl
theorem sign_yes {c : UInt8} {k : Nat} (hk : k < 11) (h : sgnR k = c) : sign c = true := by
  unfold sign
  rw [List.contains_iff_mem, ← h]
  unfold sgnR
  have : k < signs.length := hk
  rw [List.getD_eq_getElem?_getD, List.getElem?_eq_getElem this]
  exact List.getElem_mem this
theorem sign_no {c : UInt8} (h : ∀ j, j < 11 → sgnR j ≠ c) : sign c = false := by
  unfold sign
  cases hc : signs.contains c with
  | false => rfl
  | true =>
    rw [List.contains_iff_mem] at hc
    obtain ⟨i, hi, e⟩ := List.mem_iff_getElem.1 hc
    exact absurd (by unfold sgnR; rw [List.getD_eq_getElem?_getD, List.getElem?_eq_getElem hi]; exact e) (h i hi)
set_option maxRecDepth 100000 in
set_option maxHeartbeats 400000 in
theorem rsign_any (c : UInt8) (w : World) : Calls Try.prog 80 #[.int .u8 c.toNat] w fun e w' => e = .returned (.bool (sign c)) ∧ Below w.heap.size w w' := by
  have HZ : Hid (∀ j, sgnR j = c ↔ (sgnR j).toNat = c.toNat) := fun j => ⟨fun e => by rw [e], fun e => UInt8.toNat_inj.1 e⟩
  have hb : c.toNat < 256 := UInt8.toNat_lt _
  go_enter Try.func80, Try.ntmps80
  go_wp2
  obtain ⟨w0, hw0⟩ : ∃ w0, w0 = w.alloc (.cells #[Value.int .u8 43, .int .u8 45, .int .u8 42, .int .u8 47, .int .u8 61, .int .u8 60, .int .u8 40, .int .u8 41, .int .u8 38, .int .u8 124, .int .u8 33] 5) := ⟨_, rfl⟩
  rw [← hw0]
  have HW : Hid (Below w.heap.size w w0 ∧ ∀ i, i < 11 → w0.cell? ⟨w.heap.size, i, none⟩ = some (.int .u8 (sgnR i).toNat)) := by
    rw [hw0]
    refine ⟨(Below.refl _ _).alloc (Nat.le_refl _) _, fun i hi => ?_⟩
    rw [cell_of_row _ w.heap.size i _ 5 (0, 0) (heap_alloc_new w _)]; exact signs_at i hi
  clear hw0
  generalize hcn : c.toNat = cn at *
  go_loop [4] (fun i => ∃ k : Nat, k ≤ 11 ∧ i = .int .i64 k ∧ Hid (∀ j, j < k → sgnR j ≠ c)) (fun i => 11 - (intOf i).toNat)
  case atStart => exact ⟨0, by decide, rfl, fun j hj => absurd hj (by omega)⟩
  case round =>
    obtain ⟨k, hk, rfl, HN⟩ := hrel
    by_cases hlt : k < 11
    · have c0 := HW.out.2 k hlt
      have hkb : (sgnR k).toNat < 256 := UInt8.toNat_lt _
      have HZk := HZ.out k
      generalize hs : (sgnR k).toNat = sk at *
      by_cases he : sk = cn
      · have HY : Hid (sign c = true) := sign_yes hlt (HZk.2 he)
        subst he
        clear HZk
        go_wp2
        go_ret
        exact ⟨by rw [HY.out]; rfl, HW.out.1⟩
      · have HN2 : Hid (∀ j, j < k + 1 → sgnR j ≠ c) := fun j hj => by
          by_cases hjk : j < k
          · exact HN.out j hjk
          · have : j = k := by omega
            subst this
            exact fun e => he (HZk.1 e)
        have hne : ¬ (sk : Int) = (cn : Int) := by omega
        clear HZk HN
        go_wp2
        go_round
        case rel => exact ⟨k + 1, by omega, by go_num, HN2.out⟩
        case measure => simp [intOf]; omega
    · have he : k = 11 := by omega
      subst he
      have HY : Hid (sign c = false) := sign_no HN.out
      go_wp2
      go_ret
      exact ⟨by rw [HY.out]; rfl, HW.out.1⟩
/-- Digits taken so far. -/
theorem val_app (l : Bs) : ∀ (a : Nat) (m : Bs), val a (l ++ m) = val (val a l) m := by
  induction l with
  | nil => intro a m; rfl
  | cons c r ih => intro a m; exact ih _ m
theorem val_next (l : Bs) (k : Nat) (h : k < l.length) : val 0 (l.take (k + 1)) = val 0 (l.take k) * 10 + ((l[k]).toNat - 48) := by
  rw [List.take_succ_eq_append_getElem h, val_app]; rfl
theorem val_rest (l : Bs) (k : Nat) : val 0 (l.take k) ≤ val 0 l := by
  have : val 0 l = val 0 (l.take k ++ l.drop k) := by rw [List.take_append_drop]
  rw [this, val_app]; exact val_ge _ _
/-- What the walk is told of digits and what they come to. -/
structure RunsR (l : Bs) (x : ByteArray) (f : Nat → Nat) (V : Nat) : Prop where
  dg : ∀ k (h : k < l.length), 48 ≤ (l[k]).toNat ∧ (l[k]).toNat ≤ 57
  ax : ∀ k (h : k < x.size) (h2 : k < l.length), x[k]'h = l[k]'h2
  nx : ∀ k (h : k < l.length), f (k + 1) = f k * 10 + ((l[k]).toNat - 48)
  le : ∀ k, f k ≤ V
  at_end : f l.length = V
  at_start : f 0 = 0
theorem runsR_of (l : Bs) (hd : l.all digit = true) : RunsR l (ba l) (fun k => val 0 (l.take k)) (val 0 l) := by
  refine ⟨fun k h => ?_, fun k h h2 => at_list h h2, val_next l, val_rest l, ?_, rfl⟩
  · have := List.all_eq_true.1 hd l[k] (List.getElem_mem h)
    unfold digit at this
    simpa using this
  · show val 0 (l.take l.length) = val 0 l
    rw [List.take_length]
set_option maxRecDepth 100000 in
set_option maxHeartbeats 400000 in
theorem rnumber_fits (l : Bs) (x : ByteArray) (f : Nat → Nat) (V : Nat) (hz : x.size = l.length) (hl : l.length ≤ 4096) (HX : Hid (RunsR l x f V)) (hV : V ≤ 9223372036854775807) (w : World) : Calls Try.prog 82 #[.string x] w fun e w' => e = .returned (.tuple #[.int .i64 V, .bool true]) ∧ w' = w := by
  go_enter Try.func82, Try.ntmps82
  go_wp2
  go_loop [4, 5] (fun v i => ∃ k n : Nat, k ≤ l.length ∧ i = .int .i64 k ∧ v = .int .u64 n ∧ n ≤ 9223372036854775807 ∧ Hid (n = f k)) (fun _ i => l.length - (intOf i).toNat)
  case atStart => exact ⟨0, 0, Nat.zero_le _, rfl, rfl, by decide, HX.out.at_start.symm⟩
  case round =>
    obtain ⟨k, n, hk, rfl, rfl, hn, HF⟩ := hrel
    by_cases hlt : k < l.length
    · have hlt' : k < x.size := by rw [hz]; exact hlt
      have hc := HX.out.ax k hlt' hlt
      obtain ⟨d1, d2⟩ := HX.out.dg k hlt
      have h3 := HX.out.nx k hlt
      rw [← HF.out] at h3
      have h4 := HX.out.le (k + 1)
      rw [← hc] at d1 d2 h3
      have HN : Hid (f (k + 1) = n * 10 + ((x[k]'hlt').toNat - 48)) := h3
      have h5 : n * 10 + ((x[k]'hlt').toNat - 48) ≤ 9223372036854775807 := by omega
      have h1 : n ≤ 922337203685477580 := by omega
      clear hc HF h3 h4
      go_wp2
      go_round
      case rel => exact ⟨k + 1, n * 10 + ((x[k]'hlt').toNat - 48), by omega, by go_num, by congr 1; omega, by omega, HN.out.symm⟩
      case measure => simp [intOf]; omega
    · have hkl : k = l.length := by omega
      subst hkl
      have hnV : n = V := by have := HX.out.at_end; have := HF.out; omega
      subst hnV
      go_wp2
      go_ret2
      exact ⟨rfl, rfl⟩
set_option maxRecDepth 100000 in
set_option maxHeartbeats 400000 in
theorem rnumber_great (l : Bs) (x : ByteArray) (f : Nat → Nat) (V : Nat) (hz : x.size = l.length) (hl : l.length ≤ 4096) (HX : Hid (RunsR l x f V)) (hV : 9223372036854775807 < V) (w : World) : Calls Try.prog 82 #[.string x] w fun e w' => e = .returned (.tuple #[.int .i64 0, .bool false]) ∧ w' = w := by
  go_enter Try.func82, Try.ntmps82
  go_wp2
  go_loop [4, 5] (fun v i => ∃ k n : Nat, k ≤ l.length ∧ i = .int .i64 k ∧ v = .int .u64 n ∧ n ≤ 9223372036854775807 ∧ Hid (n = f k)) (fun _ i => l.length - (intOf i).toNat)
  case atStart => exact ⟨0, 0, Nat.zero_le _, rfl, rfl, by decide, HX.out.at_start.symm⟩
  case round =>
    obtain ⟨k, n, hk, rfl, rfl, hn, HF⟩ := hrel
    by_cases hlt : k < l.length
    · have hlt' : k < x.size := by rw [hz]; exact hlt
      have hc := HX.out.ax k hlt' hlt
      obtain ⟨d1, d2⟩ := HX.out.dg k hlt
      have h3 := HX.out.nx k hlt
      rw [← HF.out] at h3
      rw [← hc] at d1 d2 h3
      have HN : Hid (f (k + 1) = n * 10 + ((x[k]'hlt').toNat - 48)) := h3
      clear hc HF h3
      by_cases h1 : 922337203685477580 < n
      · go_wp2
        go_ret2
        exact ⟨rfl, rfl⟩
      · by_cases h2 : 9223372036854775807 < n * 10 + ((x[k]'hlt').toNat - 48)
        · go_wp2
          go_ret2
          exact ⟨rfl, rfl⟩
        · go_wp2
          go_round
          case rel => exact ⟨k + 1, n * 10 + ((x[k]'hlt').toNat - 48), by omega, by go_num, by congr 1; omega, by omega, HN.out.symm⟩
          case measure => simp [intOf]; omega
    · have hkl : k = l.length := by omega
      have : False := by have := HX.out.at_end; have := HF.out; subst hkl; omega
      exact this.elim
end
end
section
open Go.RowKit Go.Maps
set_option linter.unusedVariables false



/-- The result's own block, behind a callee. -/
structure Cell4R (w w1 : World) : Prop where
  c0 : w1.cell? ⟨w.heap.size, 0, none⟩ = some (.int .i64 0)
  c1 : w1.cell? ⟨w.heap.size, 1, none⟩ = some (.string ⟨#[]⟩)
  c2 : w1.cell? ⟨w.heap.size, 2, none⟩ = some (.int .i64 0)
  c3 : w1.cell? ⟨w.heap.size, 3, none⟩ = some (.int .i64 0)
  fr : ∀ i, w1.frozen? ⟨w.heap.size, i, none⟩ = false
  bel : Below w.heap.size w w1
theorem cell4R_of (w w1 : World) (HB : Below (w.alloc (.cells #[.int .i64 0, .string ⟨#[]⟩, .int .i64 0, .int .i64 0] 86)).heap.size (w.alloc (.cells #[.int .i64 0, .string ⟨#[]⟩, .int .i64 0, .int .i64 0] 86)) w1) : Cell4R w w1 := by
  have s1 := size_alloc w (.cells #[.int .i64 0, .string ⟨#[]⟩, .int .i64 0, .int .i64 0] 86)
  have k1 : w1.heap[w.heap.size]? = some (.cells #[.int .i64 0, .string ⟨#[]⟩, .int .i64 0, .int .i64 0] 86 (0, 0)) := by
    rw [HB.block _ (by omega), heap_alloc_new]
  refine ⟨?_, ?_, ?_, ?_, ?_, ?_⟩
  · rw [cell_of_row w1 _ 0 _ 86 (0, 0) k1]; rfl
  · rw [cell_of_row w1 _ 1 _ 86 (0, 0) k1]; rfl
  · rw [cell_of_row w1 _ 2 _ 86 (0, 0) k1]; rfl
  · rw [cell_of_row w1 _ 3 _ 86 (0, 0) k1]; rfl
  · intro i; simp [World.frozen?, k1]
  · exact ((Below.refl _ _).alloc (Nat.le_refl _) _).trans (HB.mono (by omega))
theorem Cell4R.done {w w1 : World} {a b c d : Value} (h : Cell4R w w1) : Below w.heap.size w ((((w1.setCell ⟨w.heap.size, 0, none⟩ a).setCell ⟨w.heap.size, 1, none⟩ b).setCell ⟨w.heap.size, 2, none⟩ c).setCell ⟨w.heap.size, 3, none⟩ d) :=
  (((h.bel.setCell (p := ⟨w.heap.size, 0, none⟩) (Nat.le_refl _) _).setCell (p := ⟨w.heap.size, 1, none⟩) (Nat.le_refl _) _).setCell (p := ⟨w.heap.size, 2, none⟩) (Nat.le_refl _) _).setCell (p := ⟨w.heap.size, 3, none⟩) (Nat.le_refl _) _
def gotV (k : Nat) (t : ByteArray) (n len : Nat) : Value := .tuple #[.agg #[.int .i64 k, .string t, .int .i64 n, .int .i64 0], .int .i64 len, .int .i64 0, .int .i64 0]
def lostV (e off : Nat) : Value := .tuple #[.agg #[.int .i64 0, .string ⟨#[]⟩, .int .i64 0, .int .i64 0], .int .i64 0, .int .i64 e, .int .i64 off]
set_option maxRecDepth 100000 in
set_option maxHeartbeats 400000 in
theorem one_sign (x y : ByteArray) (c : UInt8) (hx : 0 < x.size) (hm : x.size ≤ 4096) (hc : x[0]'hx = c) (hcut : x.extract 0 1 = y)
    (HS : Hid (∀ w, Calls Try.prog 80 #[.int .u8 c.toNat] w fun e w' => e = .returned (.bool true) ∧ Below w.heap.size w w')) (w : World) :
    Calls Try.prog 57 #[.string x] w fun e w' => e = .returned (gotV 3 y 0 1) ∧ Below w.heap.size w w' := by
  go_enter Try.func57, Try.ntmps57
  go_wp2_with (go_at_call 80; refine (HS.out _).mono ?_; rintro e w1 ⟨rfl, HB⟩; have HC : Hid (Cell4R w w1) := cell4R_of w w1 HB; clear HB; obtain ⟨c0, c1, c2, c3, fr, _⟩ := HC.out)
  refine bodyPost_ret (v := gotV 3 y 0 1) (by unfold gotV; simp [results, Try.results57, go_sem, c0, c1, c2, c3]) rfl ⟨rfl, ?_⟩
  exact HC.out.done
set_option maxRecDepth 100000 in
set_option maxHeartbeats 400000 in
theorem one_none (x : ByteArray) (c : UInt8) (hx : 0 < x.size) (hm : x.size ≤ 4096) (hc : x[0]'hx = c)
    (HS : Hid (∀ w, Calls Try.prog 80 #[.int .u8 c.toNat] w fun e w' => e = .returned (.bool false) ∧ Below w.heap.size w w'))
    (HD : Hid (∀ w, Calls Try.prog 81 #[.int .u8 c.toNat] w fun e w' => e = .returned (.bool false) ∧ w' = w))
    (HL : Hid (∀ w, Calls Try.prog 83 #[.int .u8 c.toNat] w fun e w' => e = .returned (.bool false) ∧ w' = w)) (w : World) :
    Calls Try.prog 57 #[.string x] w fun e w' => e = .returned (lostV 3 0) ∧ Below w.heap.size w w' := by
  go_enter Try.func57, Try.ntmps57
  go_wp2_with (first
    | (go_at_call 80; refine (HS.out _).mono ?_; rintro e w1 ⟨rfl, HB⟩; have HC : Hid (Cell4R w w1) := cell4R_of w w1 HB; clear HB; obtain ⟨c0, c1, c2, c3, fr, _⟩ := HC.out)
    | (go_at_call 81; refine (HD.out _).mono ?_; rintro e w' ⟨rfl, hw'⟩; have h2 := hw'.symm; subst h2)
    | (go_at_call 83; refine (HL.out _).mono ?_; rintro e w' ⟨rfl, hw'⟩; have h2 := hw'.symm; subst h2))
  refine bodyPost_ret (v := lostV 3 0) (by unfold lostV; simp [results, Try.results57, go_sem, c0, c1, c2, c3]) rfl ⟨rfl, ?_⟩
  exact HC.out.done
/-- What a run of bytes ends at. -/
structure Run (x : ByteArray) (p : UInt8 → Bool) (L : Nat) : Prop where
  pos : 1 ≤ L
  le : L ≤ x.size
  on : ∀ n (h : n < x.size), 1 ≤ n → n < L → p (x[n]'h) = true
  off : ∀ (h : L < x.size), p (x[L]'h) = false
set_option maxRecDepth 100000 in
set_option maxHeartbeats 1000000 in
theorem one_number (x y : ByteArray) (c : UInt8) (L : Nat) (hx : 0 < x.size) (hm : x.size ≤ 4096) (hc : x[0]'hx = c) (HR : Hid (Run x digit L)) (hcut : x.extract 0 L = y) (v : Nat) (ok lt : Bool)
    (HS : Hid (∀ w, Calls Try.prog 80 #[.int .u8 c.toNat] w fun e w' => e = .returned (.bool false) ∧ Below w.heap.size w w'))
    (HD : Hid (∀ w, Calls Try.prog 81 #[.int .u8 c.toNat] w fun e w' => e = .returned (.bool true) ∧ w' = w))
    (HN : Hid (∀ w, Calls Try.prog 82 #[.string y] w fun e w' => e = .returned (.tuple #[.int .i64 v, .bool ok]) ∧ w' = w))
    (HL : Hid (∀ (h : L < x.size) w, Calls Try.prog 83 #[.int .u8 (x[L]'h).toNat] w fun e w' => e = .returned (.bool lt) ∧ w' = w)) (hlt : L = x.size → lt = false) (w : World) :
    Calls Try.prog 57 #[.string x] w fun e w' => e = .returned (if ok then (if lt then lostV 3 L else gotV 1 ⟨#[]⟩ v L) else lostV 13 0) ∧ Below w.heap.size w w' := by
  have D0 : Hid True := trivial
  go_enter Try.func57, Try.ntmps57
  go_wp2_with (first
    | (go_at_call 80; refine (HS.out _).mono ?_; rintro e w1 ⟨rfl, HB⟩; have HC : Hid (Cell4R w w1) := cell4R_of w w1 HB; clear HB)
    | (have := D0; go_at_call 81; refine (HD.out _).mono ?_; rintro e w' ⟨rfl, hw'⟩; have h2 := hw'.symm; subst h2; clear D0))
  obtain ⟨c0, c1, c2, c3, fr, _⟩ := HC.out
  clear HS HD
  go_loop [6] (fun i => ∃ n : Nat, 1 ≤ n ∧ n ≤ L ∧ i = .int .i64 n) (fun i => L - (intOf i).toNat)
  case atStart => exact ⟨1, Nat.le_refl _, HR.out.pos, rfl⟩
  case round =>
    obtain ⟨n, h1, hn, rfl⟩ := hrel
    have hLs := HR.out.le
    by_cases hnL : n < L
    · have hns : n < x.size := by omega
      have HG : Hid (∀ w, Calls Try.prog 81 #[.int .u8 (x[n]'hns).toNat] w fun e w' => e = .returned (.bool true) ∧ w' = w) := by
        have := HR.out.on n hns h1 hnL
        have h3 := rdigit_any (x[n]'hns)
        rw [this] at h3; exact h3
      clear hcut
      go_wp2_with (go_at_call 81; refine (HG.out _).mono ?_; rintro e w' ⟨rfl, hw'⟩; have h2 := hw'.symm; subst h2)
      go_round
      case rel => exact ⟨n + 1, by omega, by omega, by go_num⟩
      case measure => simp [intOf]; omega
    · have he : n = L := by omega
      subst he
      by_cases hns : n < x.size
      · have HG : Hid (∀ w, Calls Try.prog 81 #[.int .u8 (x[n]'hns).toNat] w fun e w' => e = .returned (.bool false) ∧ w' = w) := by
          have := HR.out.off hns
          have h3 := rdigit_any (x[n]'hns)
          rw [this] at h3; exact h3
        have HL2 : Hid (∀ w, Calls Try.prog 83 #[.int .u8 (x[n]'hns).toNat] w fun e w' => e = .returned (.bool lt) ∧ w' = w) := HL.out hns
        clear hlt HL
        cases ok with
        | false =>
          go_wp2_with (first
            | (go_at_call 82; refine (HN.out _).mono ?_; rintro e w' ⟨rfl, hw'⟩; have h2 := hw'.symm; subst h2)
            | (go_at_call 81; refine (HG.out _).mono ?_; rintro e w' ⟨rfl, hw'⟩; have h2 := hw'.symm; subst h2))
          refine bodyPost_ret (v := lostV 13 0) (by unfold lostV; simp [results, Try.results57, go_sem, c0, c1, c2, c3]) rfl ⟨rfl, ?_⟩
          exact HC.out.done
        | true =>
          cases lt with
          | true =>
            go_wp2_with (first
              | (go_at_call 83; refine (HL2.out _).mono ?_; rintro e w' ⟨rfl, hw'⟩; have h2 := hw'.symm; subst h2)
              | (go_at_call 82; refine (HN.out _).mono ?_; rintro e w' ⟨rfl, hw'⟩; have h2 := hw'.symm; subst h2)
              | (go_at_call 81; refine (HG.out _).mono ?_; rintro e w' ⟨rfl, hw'⟩; have h2 := hw'.symm; subst h2))
            refine bodyPost_ret (v := lostV 3 n) (by unfold lostV; simp [results, Try.results57, go_sem, c0, c1, c2, c3]) rfl ⟨rfl, ?_⟩
            exact HC.out.done
          | false =>
            go_wp2_with (first
              | (go_at_call 83; refine (HL2.out _).mono ?_; rintro e w' ⟨rfl, hw'⟩; have h2 := hw'.symm; subst h2)
              | (go_at_call 82; refine (HN.out _).mono ?_; rintro e w' ⟨rfl, hw'⟩; have h2 := hw'.symm; subst h2)
              | (go_at_call 81; refine (HG.out _).mono ?_; rintro e w' ⟨rfl, hw'⟩; have h2 := hw'.symm; subst h2))
            refine bodyPost_ret (v := gotV 1 ⟨#[]⟩ v n) (by unfold gotV; simp [results, Try.results57, go_sem, c0, c1, c2, c3]) rfl ⟨rfl, ?_⟩
            exact HC.out.done
      · have he2 : n = x.size := by omega
        have hlt2 := hlt he2
        subst hlt2
        have hcut2 : x = y := by
          rw [← hcut, he2, take_ba, ← size_list, List.take_length, ba_of]
        have HN2 : Hid (∀ w, Calls Try.prog 82 #[.string x] w fun e w' => e = .returned (.tuple #[.int .i64 v, .bool ok]) ∧ w' = w) := by rw [hcut2]; exact HN.out
        clear hcut hcut2 hlt HL
        subst he2
        cases ok with
        | false =>
          go_wp2_with (go_at_call 82; refine (HN2.out _).mono ?_; rintro e w' ⟨rfl, hw'⟩; have h2 := hw'.symm; subst h2)
          refine bodyPost_ret (v := lostV 13 0) (by unfold lostV; simp [results, Try.results57, go_sem, c0, c1, c2, c3]) rfl ⟨rfl, ?_⟩
          exact HC.out.done
        | true =>
          go_wp2_with (go_at_call 82; refine (HN2.out _).mono ?_; rintro e w' ⟨rfl, hw'⟩; have h2 := hw'.symm; subst h2)
          refine bodyPost_ret (v := gotV 1 ⟨#[]⟩ v x.size) (by unfold gotV; simp [results, Try.results57, go_sem, c0, c1, c2, c3]) rfl ⟨rfl, ?_⟩
          exact HC.out.done
def nameByte (c : UInt8) : Bool := letter c || digit c
set_option maxRecDepth 100000 in
set_option maxHeartbeats 1000000 in
theorem one_name (x y : ByteArray) (c : UInt8) (L : Nat) (hx : 0 < x.size) (hm : x.size ≤ 4096) (hc : x[0]'hx = c) (HR : Hid (Run x nameByte L)) (R : Value) (HB1 : Hid (32 < L → R = lostV 3 0)) (HB2 : Hid (¬ 32 < L → R = gotV 2 y 0 L)) (hcut : x.extract 0 L = y)
    (HS : Hid (∀ w, Calls Try.prog 80 #[.int .u8 c.toNat] w fun e w' => e = .returned (.bool false) ∧ Below w.heap.size w w'))
    (HD : Hid (∀ w, Calls Try.prog 81 #[.int .u8 c.toNat] w fun e w' => e = .returned (.bool false) ∧ w' = w))
    (HL : Hid (∀ w, Calls Try.prog 83 #[.int .u8 c.toNat] w fun e w' => e = .returned (.bool true) ∧ w' = w)) (w : World) :
    Calls Try.prog 57 #[.string x] w fun e w' => e = .returned R ∧ Below w.heap.size w w' := by
  go_enter Try.func57, Try.ntmps57
  go_wp2_with (first
    | (go_at_call 80; refine (HS.out _).mono ?_; rintro e w1 ⟨rfl, HB⟩; have HC : Hid (Cell4R w w1) := cell4R_of w w1 HB; clear HB)
    | (go_at_call 81; refine (HD.out _).mono ?_; rintro e w' ⟨rfl, hw'⟩; have h2 := hw'.symm; subst h2)
    | (go_at_call 83; refine (HL.out _).mono ?_; rintro e w' ⟨rfl, hw'⟩; have h2 := hw'.symm; subst h2))
  obtain ⟨c0, c1, c2, c3, fr, _⟩ := HC.out
  clear HS HD HL
  go_loop [6] (fun i => ∃ n : Nat, 1 ≤ n ∧ n ≤ L ∧ i = .int .i64 n) (fun i => L - (intOf i).toNat)
  case atStart => exact ⟨1, Nat.le_refl _, HR.out.pos, rfl⟩
  case round =>
    obtain ⟨n, h1, hn, rfl⟩ := hrel
    have hLs := HR.out.le
    by_cases hnL : n < L
    · have hns : n < x.size := by omega
      have hp := HR.out.on n hns h1 hnL
      unfold nameByte at hp
      have HGl : Hid (∀ w, Calls Try.prog 83 #[.int .u8 (x[n]'hns).toNat] w fun e w' => e = .returned (.bool (letter (x[n]'hns))) ∧ w' = w) := rletter_any _
      have HGd : Hid (∀ w, Calls Try.prog 81 #[.int .u8 (x[n]'hns).toNat] w fun e w' => e = .returned (.bool (digit (x[n]'hns))) ∧ w' = w) := rdigit_any _
      clear hcut
      generalize letter (x[n]'hns) = bl at *
      generalize digit (x[n]'hns) = bd at *
      cases bl with
      | true =>
        clear hp
        go_wp2_with (first
          | (go_at_call 83; refine (HGl.out _).mono ?_; rintro e w' ⟨rfl, hw'⟩; have h2 := hw'.symm; subst h2)
          | (go_at_call 81; refine (HGd.out _).mono ?_; rintro e w' ⟨rfl, hw'⟩; have h2 := hw'.symm; subst h2))
        go_round
        case rel => exact ⟨n + 1, by omega, by omega, by go_num⟩
        case measure => simp [intOf]; omega
      | false =>
        have hbd : bd = true := by simpa using hp
        subst hbd
        clear hp
        go_wp2_with (first
          | (go_at_call 83; refine (HGl.out _).mono ?_; rintro e w' ⟨rfl, hw'⟩; have h2 := hw'.symm; subst h2)
          | (go_at_call 81; refine (HGd.out _).mono ?_; rintro e w' ⟨rfl, hw'⟩; have h2 := hw'.symm; subst h2))
        go_round
        case rel => exact ⟨n + 1, by omega, by omega, by go_num⟩
        case measure => simp [intOf]; omega
    · have he : n = L := by omega
      subst he
      by_cases hns : n < x.size
      · have hp := HR.out.off hns
        unfold nameByte at hp
        have HGl : Hid (∀ w, Calls Try.prog 83 #[.int .u8 (x[n]'hns).toNat] w fun e w' => e = .returned (.bool (letter (x[n]'hns))) ∧ w' = w) := rletter_any _
        have HGd : Hid (∀ w, Calls Try.prog 81 #[.int .u8 (x[n]'hns).toNat] w fun e w' => e = .returned (.bool (digit (x[n]'hns))) ∧ w' = w) := rdigit_any _
        generalize letter (x[n]'hns) = bl at *
        generalize digit (x[n]'hns) = bd at *
        obtain ⟨rfl, rfl⟩ : bl = false ∧ bd = false := by simpa using hp
        clear hp
        by_cases hbig : 32 < n
        · have HRR : Hid (R = lostV 3 0) := HB1.out hbig
          go_wp2_with (first
            | (go_at_call 83; refine (HGl.out _).mono ?_; rintro e w' ⟨rfl, hw'⟩; have h2 := hw'.symm; subst h2)
            | (go_at_call 81; refine (HGd.out _).mono ?_; rintro e w' ⟨rfl, hw'⟩; have h2 := hw'.symm; subst h2))
          refine bodyPost_ret (v := lostV 3 0) (by unfold lostV; simp [results, Try.results57, go_sem, c0, c1, c2, c3]) rfl ⟨by rw [HRR.out], ?_⟩
          exact HC.out.done
        · have HRR : Hid (R = gotV 2 y 0 n) := HB2.out hbig
          go_wp2_with (first
            | (go_at_call 83; refine (HGl.out _).mono ?_; rintro e w' ⟨rfl, hw'⟩; have h2 := hw'.symm; subst h2)
            | (go_at_call 81; refine (HGd.out _).mono ?_; rintro e w' ⟨rfl, hw'⟩; have h2 := hw'.symm; subst h2))
          refine bodyPost_ret (v := gotV 2 y 0 n) (by unfold gotV; simp [results, Try.results57, go_sem, c0, c1, c2, c3]) rfl ⟨by rw [HRR.out], ?_⟩
          exact HC.out.done
      · have he2 : n = x.size := by omega
        have hcut2 : y = x := by
          rw [← hcut, he2, take_ba, ← size_list, List.take_length, ba_of]
        subst hcut2
        clear hcut
        subst he2
        by_cases hbig : 32 < y.size
        · have HRR : Hid (R = lostV 3 0) := HB1.out hbig
          go_wp2
          refine bodyPost_ret (v := lostV 3 0) (by unfold lostV; simp [results, Try.results57, go_sem, c0, c1, c2, c3]) rfl ⟨by rw [HRR.out], ?_⟩
          exact HC.out.done
        · have HRR : Hid (R = gotV 2 y 0 y.size) := HB2.out hbig
          go_wp2
          refine bodyPost_ret (v := gotV 2 y 0 y.size) (by unfold gotV; simp [results, Try.results57, go_sem, c0, c1, c2, c3]) rfl ⟨by rw [HRR.out], ?_⟩
          exact HC.out.done
end
section
open Go.RowKit Go.Maps
set_option linter.unusedVariables false



theorem tw_on (p : UInt8 → Bool) : ∀ (r : Bs) (k : Nat) (h : k < r.length), k < (r.takeWhile p).length → p r[k] = true
  | [], k, h, _ => by simp at h
  | c :: r, k, h, hk => by
    cases hc : p c with
    | false => simp [List.takeWhile, hc] at hk
    | true =>
      cases k with
      | zero => exact hc
      | succ k =>
        simp only [List.takeWhile, hc, List.length_cons] at hk
        exact tw_on p r k (by simpa using h) (by omega)
theorem tw_off (p : UInt8 → Bool) : ∀ (r : Bs) (h : (r.takeWhile p).length < r.length), p (r[(r.takeWhile p).length]'h) = false
  | [], h => by simp at h
  | c :: r, h => by
    cases hc : p c with
    | false => simp [List.takeWhile, hc]
    | true =>
      have h2 : (r.takeWhile p).length < r.length := by simpa [List.takeWhile, hc] using h
      have := tw_off p r h2
      simpa [List.takeWhile, hc] using this
theorem at_cons {x : ByteArray} {c : UInt8} {r : Bs} (hx : x.data.toList = c :: r) {n : Nat} (h : n < x.size) (h1 : 1 ≤ n) (h2 : n - 1 < r.length) : x[n]'h = r[n - 1]'h2 := by
  rw [at_list h (by rw [size_list]; exact h)]
  simp only [hx]
  rw [List.getElem_cons]
  simp [show n ≠ 0 by omega]
theorem size_cons {x : ByteArray} {c : UInt8} {r : Bs} (hx : x.data.toList = c :: r) : x.size = r.length + 1 := by rw [← size_list, hx]; rfl
theorem at_first {x : ByteArray} {c : UInt8} {r : Bs} (hx : x.data.toList = c :: r) (h : 0 < x.size) : x[0]'h = c := by
  rw [at_list h (by rw [size_list]; exact h)]
  simp only [hx]; rfl
theorem run_of {x : ByteArray} {c : UInt8} {r : Bs} (hx : x.data.toList = c :: r) (p : UInt8 → Bool) : Run x p ((r.takeWhile p).length + 1) := by
  have hz := size_cons hx
  have hl := (List.takeWhile_sublist p (l := r)).length_le
  refine ⟨by omega, by omega, fun n h h1 h2 => ?_, fun h => ?_⟩
  · rw [at_cons hx h h1 (by omega)]
    exact tw_on p r (n - 1) _ (by omega)
  · rw [at_cons hx h (by omega) (by omega)]
    have := tw_off p r (by omega)
    simpa using this
theorem cut_first {x : ByteArray} {c : UInt8} {r : Bs} (hx : x.data.toList = c :: r) (k : Nat) : x.extract 0 ((r.takeWhile (goes k)).length + 1) = ba (c :: r.takeWhile (goes k)) := by
  rw [take_ba, hx, word_take_k]
theorem goes_one : goes 1 = digit := by funext x; rfl
theorem goes_two : goes 2 = nameByte := by funext x; exact Bool.or_comm _ _
theorem goes_threeR : goes 3 = fun _ => false := by funext x; rfl
theorem sign_kind {c : UInt8} (h : sign c = true) : kind c = 3 := by
  unfold sign at h
  rw [List.contains_iff_mem] at h
  simp only [signs, List.mem_cons, List.not_mem_nil, or_false] at h
  rcases h with rfl | rfl | rfl | rfl | rfl | rfl | rfl | rfl | rfl | rfl | rfl <;> decide
theorem sign_other {c : UInt8} (h : kind c ≠ 3) : sign c = false := by
  cases hs : sign c with
  | false => rfl
  | true => exact absurd (sign_kind hs) h
theorem kind_not1 {c : UInt8} (h : kind c ≠ 1) : digit c = false := by
  cases hs : digit c with
  | false => rfl
  | true => exact absurd (by unfold kind; rw [if_pos hs]) h
theorem kind_2 {c : UInt8} (h : kind c = 2) : letter c = true := by
  cases hs : letter c with
  | true => rfl
  | false =>
    unfold kind at h
    rw [hs] at h
    repeat' split at h
    all_goals simp_all
theorem kind_not2 {c : UInt8} (h1 : kind c ≠ 1) (h : kind c ≠ 2) : letter c = false := by
  cases hs : letter c with
  | false => rfl
  | true => exact absurd (by unfold kind; rw [kind_not1 h1, hs]; rfl) h
theorem kind_3 {c : UInt8} (h : kind c = 3) : sign c = true := by
  cases hs : sign c with
  | true => rfl
  | false =>
    unfold kind at h
    rw [hs] at h
    repeat' split at h
    all_goals simp_all
theorem rsign_at {c : UInt8} {b : Bool} (h : sign c = b) : ∀ w, Calls Try.prog 80 #[.int .u8 c.toNat] w fun e w' => e = .returned (.bool b) ∧ Below w.heap.size w w' := by subst h; exact rsign_any c
theorem rdigit_at {c : UInt8} {b : Bool} (h : digit c = b) : ∀ w, Calls Try.prog 81 #[.int .u8 c.toNat] w fun e w' => e = .returned (.bool b) ∧ w' = w := by subst h; exact rdigit_any c
theorem rletter_at {c : UInt8} {b : Bool} (h : letter c = b) : ∀ w, Calls Try.prog 83 #[.int .u8 c.toNat] w fun e w' => e = .returned (.bool b) ∧ w' = w := by subst h; exact rletter_any c
def oneVR (o : Got) : Value := if o.err = 0 then gotV o.kind (ba o.text) o.n o.len else lostV o.err o.off
theorem rest_at {x : ByteArray} {c : UInt8} {r : Bs} (hx : x.data.toList = c :: r) (h : (word c r).length < x.size) : headLetter (r.dropWhile (goes (kind c))) = letter (x[(word c r).length]'h) := by
  have hf : From x 0 c r := ⟨by rw [List.drop_zero]; exact hx⟩
  have := hf.letter_on (by rw [Nat.zero_add]; exact h)
  rw [this]
  congr 1
  simp only [Nat.zero_add]
theorem rest_end {x : ByteArray} {c : UInt8} {r : Bs} (hx : x.data.toList = c :: r) (h : (word c r).length = x.size) : headLetter (r.dropWhile (goes (kind c))) = false := by
  have hf : From x 0 c r := ⟨by rw [List.drop_zero]; exact hx⟩
  exact hf.letter_end (by omega)
theorem rone_any {x : ByteArray} {c : UInt8} {r : Bs} (hx : x.data.toList = c :: r) (hm : x.size ≤ 4096) (w : World) : Calls Try.prog 57 #[.string x] w fun e w' => e = .returned (oneVR (one (c :: r))) ∧ Below w.heap.size w w' := by
  have hz := size_cons hx
  have h0 : 0 < x.size := by omega
  have hc := at_first hx h0
  have hwl := word_len c r
  have hwz : (word c r).length ≤ 4096 := by simp at hwl; omega
  rw [one_cons, oneC]
  by_cases h1 : kind c = 1
  · have hw : word c r = c :: r.takeWhile (goes 1) := by rw [word_of, h1]
    have hrun : Run x digit (word c r).length := by
      have := run_of hx (goes 1)
      rw [goes_one] at this
      rw [hw, goes_one]; exact this
    have hcut : x.extract 0 (word c r).length = ba (word c r) := by rw [hw]; exact cut_first hx 1
    have hs : sign c = false := sign_other (by omega)
    rw [if_pos h1]
    have hl : ∀ (h : (word c r).length < x.size) w, Calls Try.prog 83 #[.int .u8 (x[(word c r).length]'h).toNat] w fun e w' => e = .returned (.bool (headLetter (r.dropWhile (goes (kind c))))) ∧ w' = w := fun h => rletter_at (rest_at hx h).symm
    have hru := runsR_of (word c r) (word_digits h1)
    by_cases h2 : 2 ^ 63 ≤ val 0 (word c r)
    · rw [if_pos h2]
      exact one_number x _ c _ h0 hm hc hrun hcut 0 false _ (rsign_at hs) (rdigit_at (kind_digit h1)) (rnumber_great _ _ _ _ rfl hwz hru (by omega)) hl (rest_end hx) w
    · rw [if_neg h2]
      have := one_number x _ c _ h0 hm hc hrun hcut (val 0 (word c r)) true _ (rsign_at hs) (rdigit_at (kind_digit h1)) (rnumber_fits _ _ _ _ rfl hwz hru (by omega)) hl (rest_end hx) w
      cases h3 : headLetter (r.dropWhile (goes (kind c))) with
      | true => rw [h3] at this; exact this
      | false => rw [h3] at this; exact this
  · rw [if_neg h1]
    have hd := kind_not1 h1
    by_cases h2 : kind c = 2
    · have hw : word c r = c :: r.takeWhile (goes 2) := by rw [word_of, h2]
      have hrun : Run x nameByte (word c r).length := by
        have := run_of hx (goes 2)
        rw [goes_two] at this
        rw [hw, goes_two]; exact this
      have hcut : x.extract 0 (word c r).length = ba (word c r) := by rw [hw]; exact cut_first hx 2
      rw [if_pos h2]
      refine one_name x _ c _ h0 hm hc hrun _ ?_ ?_ hcut (rsign_at (sign_other (by omega))) (rdigit_at hd) (rletter_at (kind_2 h2)) w
      · intro h; rw [if_pos h]; rfl
      · intro h; rw [if_neg h]; rfl
    · rw [if_neg h2]
      by_cases h3 : kind c = 3
      · rw [if_pos h3]
        have hw : word c r = [c] := by rw [word_of, h3, goes_threeR]; congr 1; cases r <;> rfl
        rw [hw]
        exact one_sign x _ c h0 hm hc (by rw [take_ba, hx]; rfl) (rsign_at (kind_3 h3)) w
      · rw [if_neg h3]
        exact one_none x c h0 hm hc (rsign_at (sign_other h3)) (rdigit_at hd) (rletter_at (kind_not2 h1 h2)) w
end
section
open Go.RowKit Go.Maps
set_option linter.unusedVariables false



set_option maxRecDepth 100000 in
set_option maxHeartbeats 400000 in
theorem rsplit_walk (s : ByteArray) (hs : s.size ≤ 4096) (o : Out) (HO : Hid (sp s.data.toList 0 = o)) (w : World) :
    Calls Try.prog 41 #[.string s] w fun e w' => ∃ v, e = .returned (.tuple #[v, faultV o.err o.pos]) ∧ WordsV w' v o.ws ∧ Below w.heap.size w w' := by
  obtain ⟨w0, hw0⟩ : ∃ w0, w0 = w.alloc (.cells #[.int .i64 0, .int .i64 0] 57) := ⟨_, rfl⟩
  have HW0 : Hid (Below w.heap.size w w0 ∧ w0.heap.size = w.heap.size + 1 ∧ w0.heap[w.heap.size]? = some (.cells #[.int .i64 0, .int .i64 0] 57)) := by
    subst hw0
    exact ⟨(Below.refl _ _).alloc (Nat.le_refl _) _, size_alloc _ _, heap_alloc_new _ _⟩
  go_enter Try.func41, Try.ntmps41
  go_wp2
  rw [← hw0]
  clear hw0
  go_loopw [4, 5] (fun v i wr => ∃ (k : Nat), k ≤ s.size ∧ i = .int .i64 k ∧ Hid (∃ ws, Outs w0 wr v ws ∧ ws.length ≤ k ∧ join ws (sp (s.data.toList.drop k) k) = o)) (fun _ i _ => s.size - (intOf i).toNat)
  case atStart => exact ⟨0, Nat.zero_le _, rfl, [], Outs.start w0, Nat.le_refl _, by rw [List.drop_zero, sp_norm]; exact HO.out⟩
  case round =>
    obtain ⟨k, hk, rfl, HK⟩ := hrel
    by_cases hlt : k < s.size
    · have HF : Hid (From s k (s[k]'hlt) (s.data.toList.drop (k + 1))) := from_at hlt
      have hb : (s[k]'hlt).toNat < 256 := UInt8.toNat_lt _
      generalize hc : s[k]'hlt = c at *
      generalize s.data.toList.drop (k + 1) = r at *
      by_cases hbl : c.toNat = 32
      · have HE : Hid (∃ ws, Outs w0 wr u4 ws ∧ ws.length ≤ k + 1 ∧ join ws (sp (s.data.toList.drop (k + 1)) (k + 1)) = o) := by
          obtain ⟨ws, h1, h2, h3⟩ := HK.out
          exact ⟨ws, h1, by omega, step_blank h3 hlt (by rw [hc]; exact hbl)⟩
        clear HK HF
        go_wp2
        go_roundw
        case rel => exact ⟨k + 1, by omega, by go_num, HE.out⟩
        case measure => simp [intOf]; omega
      · obtain ⟨ws, hO, hl, hj⟩ := HK.out
        have HOu : Hid (Outs w0 wr u4 ws) := hO
        have HJ : Hid (join ws (sp (s.data.toList.drop k) k) = o) := hj
        have HL : Hid (ws.length ≤ k) := hl
        clear HK hO hj hl
        by_cases he : (one (c :: r)).err = 0
        · have HC : Hid (∀ w, Calls Try.prog 57 #[.string (s.extract k s.size)] w fun e w' => e = .returned (gotV (one (c :: r)).kind (ba (one (c :: r)).text) (one (c :: r)).n (one (c :: r)).len) ∧ Below w.heap.size w w') := by
            have := rone_any HF.out.cut (Nat.le_trans (cut_size s k) hs)
            unfold oneVR at this
            rw [if_pos he] at this
            exact this
          have HN : Hid _ := step_word HJ.out c r HF.out hbl he
          have hlen := one_len_pos he
          have hfl := HF.out.len
          rw [List.length_cons] at hlen
          have hkL : k + (one (c :: r)).len ≤ s.size := by omega
          have hl1 : 1 ≤ (one (c :: r)).len := hlen.1
          clear HF he hfl hlen
          generalize (one (c :: r)).kind = K at *
          generalize (one (c :: r)).text = T at *
          generalize (one (c :: r)).n = N at *
          generalize (one (c :: r)).len = L at *
          unfold gotV at HC
          go_wp2_with (first
            | (go_at_call 57; refine (HC.out _).mono ?_; rintro e w1 ⟨rfl, HB⟩; have HO1 : Hid (Outs w0 w1 u4 ws) := HOu.out.moved HB; clear HB HC)
            | (at_builtin; refine wpList_add rfl (.tmp 42) (.tmp 44) rfl (HO1.out.moved ((Below.refl _ _).alloc (Nat.le_refl _) _)) rfl ⟨K, T, N, k⟩ rfl (by rw [size_alloc]) (Nat.le_trans HL.out (by omega)) ?_; intro v1 w2 hO2; have HO2 : Hid (Outs w0 w2 v1 (ws ++ [⟨K, T, N, k⟩])) := hO2; clear hO2 HO1))
          go_roundw
          case rel => exact ⟨k + L, hkL, by go_num, ws ++ [⟨K, T, N, k⟩], HO2.out, by have := HL.out; simp; omega, HN.out⟩
          case measure => simp [intOf]; omega
        · have HC : Hid (∀ w, Calls Try.prog 57 #[.string (s.extract k s.size)] w fun e w' => e = .returned (lostV (one (c :: r)).err (one (c :: r)).off) ∧ Below w.heap.size w w') := by
            have := rone_any HF.out.cut (Nat.le_trans (cut_size s k) hs)
            unfold oneVR at this
            rw [if_neg he] at this
            exact this
          have HN : Hid _ := step_bad HJ.out c r HF.out hbl he
          have HB0 : Hid (Below w0.heap.size w0 wr) := HOu.out.bel
          have hofs := one_off he
          have hfl := HF.out.len
          rw [List.length_cons] at hofs
          have hkF : k + (one (c :: r)).off < s.size := by omega
          clear HF HOu HJ HL hofs hfl
          generalize (one (c :: r)).err = E at *
          generalize (one (c :: r)).off = F at *
          unfold lostV at HC
          go_wp2_with (go_at_call 57; refine (HC.out _).mono ?_; rintro e w1 ⟨rfl, HB⟩; have HB1 : Hid (Below w0.heap.size w0 w1) := HB0.out.trans (HB.mono HB0.out.size); clear HB HC; have k1 : w1.heap[w.heap.size]? = some (.cells #[.int .i64 0, .int .i64 0] 57) := (HB1.out.block _ (by rw [HW0.out.2.1]; omega)).trans HW0.out.2.2; have hlt1 : w.heap.size < w1.heap.size := (Array.getElem?_eq_some_iff.1 k1).1; have c0 : w1.cell? ⟨w.heap.size, 0, none⟩ = some (.int .i64 0) := (by rw [cell_of_row w1 _ 0 _ 57 (0, 0) k1]; rfl); have c1 : w1.cell? ⟨w.heap.size, 1, none⟩ = some (.int .i64 0) := (by rw [cell_of_row w1 _ 1 _ 57 (0, 0) k1]; rfl); have f0 : ∀ i, w1.frozen? ⟨w.heap.size, i, none⟩ = false := (by intro i; simp [World.frozen?, k1]); clear k1)
          have e1 : (k : Int) + (F : Int) = ((k + F : Nat) : Int) := by omega
          have hB0 : Below w.heap.size w w1 := HW0.out.1.trans (HB1.out.mono (by rw [HW0.out.2.1]; omega))
          have hB1 := Below.setCell (Below.setCell hB0 (p := ⟨w.heap.size, 0, none⟩) (Nat.le_refl _) (.int .i64 E)) (p := ⟨w.heap.size, 1, none⟩) (Nat.le_refl _) (.int .i64 ((k : Int) + F))
          refine bodyPost_ret (v := .tuple #[.slice none 0 0, faultV E (k + F)]) (by unfold faultV; simp [results, Try.results41, go_sem, c0, c1, hlt1]) rfl ⟨.slice none 0 0, ?_, ?_, ?_⟩
          · rw [HN.out]
          · rw [HN.out]; exact WordsV.nil _
          · exact hB1.alloc hB1.size _
    · have he : k = s.size := by omega
      subst he
      obtain ⟨ws, hO, hl, hj⟩ := HK.out
      have HE : Hid (o = ⟨ws, 0, 0⟩ ∧ ∀ w', (∀ g, w0.heap.size ≤ g → w'.heap[g]? = wr.heap[g]?) → WordsV w' u4 ws) := ⟨step_end hj, fun w' hg => hO.words_turned (by omega) hg⟩
      have hB := hO.bel
      have k1 : wr.heap[w.heap.size]? = some (.cells #[.int .i64 0, .int .i64 0] 57) := (hB.block _ (by rw [HW0.out.2.1]; omega)).trans HW0.out.2.2
      have c0 : wr.cell? ⟨w.heap.size, 0, none⟩ = some (.int .i64 0) := by rw [cell_of_row wr _ 0 _ 57 (0, 0) k1]; rfl
      have c1 : wr.cell? ⟨w.heap.size, 1, none⟩ = some (.int .i64 0) := by rw [cell_of_row wr _ 1 _ 57 (0, 0) k1]; rfl
      have f0 : ∀ i, wr.frozen? ⟨w.heap.size, i, none⟩ = false := by intro i; simp [World.frozen?, k1]
      have HB2 : Hid (Below w.heap.size w wr) := HW0.out.1.trans (hB.mono (by rw [HW0.out.2.1]; omega))
      clear hO hj HK hl hB k1
      have HZ : Hid (w0.heap.size = w.heap.size + 1) := HW0.out.2.1
      clear HW0
      generalize hb0 : w.heap.size = b0 at *
      go_wp2
      refine bodyPost_ret (v := .tuple #[u4, faultV 0 0]) (by unfold faultV; simp [results, Try.results41, go_sem, c0, c1]) rfl ⟨u4, ?_, ?_, ?_⟩
      · rw [HE.out.1]
      · rw [HE.out.1]
        refine HE.out.2 _ fun g hg => ?_
        rw [Below.heap_setCell _ _ _ _ (by rw [HZ.out] at hg; show g ≠ b0; omega), Below.heap_setCell _ _ _ _ (by rw [HZ.out] at hg; show g ≠ b0; omega)]
      · rw [hb0]; exact Below.setCell (Below.setCell HB2.out (p := ⟨b0, 0, none⟩) (Nat.le_refl b0) _) (p := ⟨b0, 1, none⟩) (Nat.le_refl b0) _
set_option maxRecDepth 100000 in
theorem rsplit_long (s : ByteArray) (hs : 4096 < s.size) (hm : s.size ≤ maxLen) (w : World) :
    Calls Try.prog 41 #[.string s] w fun e w' => e = .returned (.tuple #[.slice none 0 0, faultV 6 0]) ∧ Below w.heap.size w w' := by
  unfold maxLen at hm
  go_enter Try.func41, Try.ntmps41
  go_wp2
  refine bodyPost_ret (v := .tuple #[.slice none 0 0, faultV 6 0]) (by unfold faultV; simp [results, Try.results41, go_sem]) rfl ⟨rfl, ?_⟩
  exact (Below.refl _ _).alloc (Nat.le_refl _) _
theorem rsplit_any (s : ByteArray) (hm : s.size ≤ maxLen) (w : World) :
    Calls Try.prog 41 #[.string s] w fun e w' => ∃ v, e = .returned (.tuple #[v, faultV (lexOut s).err (lexOut s).pos]) ∧ WordsV w' v (lexOut s).ws ∧ Below w.heap.size w w' := by
  by_cases h : s.size ≤ 4096
  · unfold lexOut
    rw [if_pos h]
    exact rsplit_walk s h _ rfl w
  · unfold lexOut
    rw [if_neg h]
    refine (rsplit_long s (by omega) hm w).mono ?_
    rintro e w' ⟨rfl, hB⟩
    exact ⟨_, rfl, WordsV.nil _, hB⟩
end
end Go.Proofs.Ytfjphlejhcdbaaa
