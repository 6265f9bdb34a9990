/-
  Contracts: the program's Int, the document's Int and Bytes, the laws' own and Same.
-/
import Derived.Test.YtcaddedkodjgcaaPwr
import Derived.Laws.BytesString
namespace Go.Proofs.Ytcaddedkodjgcaa
open Go.RowKit Pack

theorem uint_eq (x : Int) (base : Nat) (v : Value) (l : List (BitVec 8)) (n : Nat) (w : World) (hx : x = (n : Int)) (hown : Owns w base v l) (hb : base ≤ w.heap.size) (hl : l.length ≤ 100000000000000) (hn : n < 18446744073709551616) :
    Calls Try.prog 40 #[v, .int .u64 x] w fun e w' => ∃ v', e = .returned v' ∧ Owns w' base v' (l ++ urow n) ∧ Below base w w' := by
  subst hx; exact uint_any base v l n w hown hb hl hn
theorem ruint_eq (x : Int) (n : Nat) (w : World) (hx : x = (n : Int)) (hn : n < 18446744073709551616) :
    Calls Try.prog 44 #[.int .u64 x] w fun e w' => ∃ v', e = .returned v' ∧ Owns w' w.heap.size v' (urow n) ∧ Below w.heap.size w w' := by
  subst hx; exact ruint_any n w hn

set_option maxRecDepth 100000 in
theorem same_any (v u : Value) (l m : List (BitVec 8)) (w : World) (hr : ReadsV w v l) (hq : ReadsV w u m) :
    Calls Try.prog 13 #[v, u] w fun e w' => e = .returned (.bool (decide (l = m))) ∧ w' = w := by
  obtain ⟨a, c, rfl, hrest⟩ := hr
  obtain ⟨a2, c2, rfl, hrest2⟩ := hq
  have h1 := convert_str (w := w) ⟨a, c, rfl, hrest⟩
  have h2 := convert_str (w := w) ⟨a2, c2, rfl, hrest2⟩
  have h3 := str_same l m
  clear hrest hrest2
  go_enter Try.func13, Try.ntmps13
  go_wp2
  go_ret
  exact ⟨rfl, rfl⟩

theorem same_yes (v u : Value) (l : List (BitVec 8)) (w : World) (hr : ReadsV w v l) (hq : ReadsV w u l) :
    Calls Try.prog 13 #[v, u] w fun e w' => e = .returned (.bool true) ∧ w' = w := by
  have := same_any v u l l w hr hq
  rwa [decide_eq_true rfl] at this

set_option maxRecDepth 100000 in
theorem rbytes_any (v : Value) (l : List (BitVec 8)) (w : World) (hr : ReadsV w v l) (hl : l.length ≤ 100000000000000) :
    Calls Try.prog 45 #[v] w fun e w' => ∃ v', e = .returned v' ∧ Owns w' w.heap.size v' (urow l.length ++ l) ∧ Below w.heap.size w w' := by
  obtain ⟨a, c, rfl, hrest⟩ := hr
  obtain ⟨n, hn⟩ : ∃ n, l.length = n := ⟨_, rfl⟩
  have HR : Hid (ReadsV w (.slice a n c) l) := ⟨a, c, by rw [hn], hrest⟩
  have hl2 : n ≤ 100000000000000 := by omega
  have HL : Hid ((urow n).length + l.length ≤ 140737488355328) := by show _ ≤ _; have := urow_len (n := n) (by omega); omega
  have HN : Hid (n < 18446744073709551616) := by show _ < _; omega
  rw [hn]
  clear hrest hl hn
  go_enter Try.func45, Try.ntmps45
  go_wp2_with (first
    | (go_at_call 44; refine (ruint_eq _ n _ rfl HN.out).mono ?_; rintro e w' ⟨v', rfl, ho, hB⟩; have HO : Hid (Owns w' w.heap.size v' (urow n)) := ho; have HB : Hid (Below w.heap.size w w') := hB; clear ho hB)
    | (at_builtin; refine wpList_append_bytes rfl (.tmp 6) (.tmp 7) 27 rfl w.heap.size Try.underlying27 Try.info5 _ (urow n) rfl HO.out _ l rfl (HR.out.below HB.out) HL.out HB.out.size ?_; intro v1 w1 hown1 hg1))
  go_ret
  exact ⟨_, rfl, hown1, HB.out.trans hg1⟩

end Go.Proofs.Ytcaddedkodjgcaa
