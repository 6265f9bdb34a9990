/-
  The laws' works: the example of the chapter.
-/
import Derived.Test.YtcmnjiichkcmgaaCrash
namespace Go.Proofs.Ytcmnjiichkcmgaa
open Go.RowKit Go.Maps Go.Sort
set_option linter.unusedVariables false

/-- A disk of the call's own. -/
def St (w0 w : World) (pb : Nat) (fp : Nat → Prop) (N : Nat) (F : Tab) : Prop := Disk w pb fp N F ∧ Below w0.heap.size w0 w ∧ ∀ i, fp i → w0.heap.size ≤ i

theorem St.did {w0 w w' : World} {pb N N' : Nat} {fp : Nat → Prop} {F F' : Tab} (h : St w0 w pb fp N F) (hd : Did w w' pb fp N' F') : St w0 w' pb (grow fp w w') N' F' := by
  obtain ⟨h1, h2, h3⟩ := h
  obtain ⟨t, d⟩ := hd
  refine ⟨d, h2.trans (t.below h2.size h3), ?_⟩
  rintro i (hi | hi)
  · exact h3 i hi
  · exact Nat.le_trans h2.size hi.1
theorem St.kept {w0 w w' : World} {pb N : Nat} {fp : Nat → Prop} {F : Tab} (h : St w0 w pb fp N F) (ht : Turned (fun _ => False) w w') : St w0 w' pb fp N F :=
  ⟨h.1.kept ht (fun _ _ h => h), h.2.1.trans (ht.below h.2.1.size (fun _ h => h.elim)), h.2.2⟩
theorem Disk.lt {w : World} {pb N : Nat} {fp : Nat → Prop} {F : Tab} (h : Disk w pb fp N F) {i : Nat} (hi : fp i) : i < w.heap.size := by
  obtain ⟨V, h1, _⟩ := h
  exact h1 i hi
theorem St.more {w0 w : World} {pb N N' : Nat} {fp : Nat → Prop} {F : Tab} (h : St w0 w pb fp N F) (hn : N ≤ N') : St w0 w pb fp N' F := ⟨h.1.more hn, h.2⟩
theorem St.new (w : World) : St w (w.alloc (.cells #[.map none] 53)) w.heap.size (fun i => i = w.heap.size) 0 none' :=
  ⟨new_disk w, (Below.refl _ w).alloc (Nat.le_refl _) _, fun i hi => by simp at hi; omega⟩

theorem more_le (F : Tab) (k : Key) (N : Nat) : more F k N ≤ N + 1 := by unfold more; split <;> omega

theorem St.app {w0 w : World} {pb N M : Nat} {fp : Nat → Prop} {F : Tab} {s : ByteArray} {v : Value} {b : List (BitVec 8)} (h : St w0 w pb fp N F) (hs : s.size ≤ maxLen) (hN : N < 100000) (hf : Fits F M) (hM : M ≤ 50000000000000) (hr : ReadsV w v b) (hl : b.length ≤ 50000000000000) (hn : nm s = true) :
    Calls Try.prog 20 #[.pointer (some ⟨pb, 0, none⟩), .string s, v] w fun e w' => e = .returned (.int .i64 0) ∧ ∃ fp', St w0 w' pb fp' (N + 1) (appF F (key s) b) :=
  (append_yes pb N M fp F s v b w h.1 hs (by omega) hf hM hr hl hn).mono fun e w' ⟨he, hd⟩ => ⟨he, _, (h.did hd).more (more_le _ _ _)⟩
theorem St.sync {w0 w : World} {pb N M : Nat} {fp : Nat → Prop} {F : Tab} {s : ByteArray} (h : St w0 w pb fp N F) (hs : s.size ≤ maxLen) (hN : N < 100000) (hf : Fits F M) (hM : M ≤ 50000000000000) (hn : (F (key s)).isSome = true) :
    Calls Try.prog 21 #[.pointer (some ⟨pb, 0, none⟩), .string s] w fun e w' => e = .returned (.int .i64 0) ∧ ∃ fp', St w0 w' pb fp' N (syncF F (key s)) :=
  (sync_yes pb N M fp F s w h.1 hs (by omega) hf (by omega) hn).mono fun e w' ⟨he, hd⟩ => ⟨he, _, h.did hd⟩
theorem St.sync_no {w0 w : World} {pb N : Nat} {fp : Nat → Prop} {F : Tab} {s : ByteArray} (h : St w0 w pb fp N F) (hs : s.size ≤ maxLen) (hn : F (key s) = none) :
    Calls Try.prog 21 #[.pointer (some ⟨pb, 0, none⟩), .string s] w fun e w' => e = .returned (.int .i64 9) ∧ ∃ fp', St w0 w' pb fp' N F :=
  (Ytcmnjiichkcmgaa.sync_no pb N fp F s w h.1 hs hn).mono fun e w' ⟨he, hd⟩ => ⟨he, _, h.did hd⟩
theorem St.loose {w0 w : World} {pb N M : Nat} {fp : Nat → Prop} {F : Tab} {s : ByteArray} (h : St w0 w pb fp N F) (hs : s.size ≤ maxLen) (hf : Fits F M) (hM : M ≤ 50000000000000) :
    Calls Try.prog 18 #[.pointer (some ⟨pb, 0, none⟩), .string s] w fun e w' => e = .returned (.int .i64 ((bytesOf F (key s)).length - syncOf F (key s) : Nat)) ∧ St w0 w' pb fp N F :=
  (loose_any pb N M fp F s w h.1 hs hf (by omega)).mono fun e w' ⟨he, hB⟩ => ⟨he, h.kept (below_turned hB)⟩
theorem St.read {w0 w : World} {pb N M : Nat} {fp : Nat → Prop} {F : Tab} {s : ByteArray} (h : St w0 w pb fp N F) (hs : s.size ≤ maxLen) (hf : Fits F M) (hM : M ≤ 50000000000000) :
    Calls Try.prog 15 #[.pointer (some ⟨pb, 0, none⟩), .string s] w fun e w' => ∃ v', e = .returned v' ∧ Owns w' w.heap.size v' (bytesOf F (key s)) ∧ St w0 w' pb fp N F ∧ Below w.heap.size w w' :=
  (read_any pb N M fp F s w h.1 hs hf (by omega)).mono fun e w' ⟨v, he, ho, hB⟩ => ⟨v, he, ho, h.kept (below_turned hB), hB⟩
theorem St.names {w0 w : World} {pb N : Nat} {fp : Nat → Prop} {F : Tab} (h : St w0 w pb fp N F) (hN : N < 100000) :
    Calls Try.prog 17 #[.pointer (some ⟨pb, 0, none⟩)] w fun e w' => ∃ (a : Option Addr) (ks : List Key) (c : Nat), e = .returned (.slice a ks.length c) ∧ NamesOf F ks ∧ ks.length ≤ N ∧ (∀ k ∈ ks, k.length ≤ maxLen) ∧ w'.ownsRow w.heap.size 9 1 (.slice a ks.length c) ks.length (ks.map encStr) ∧ St w0 w' pb fp N F ∧ Below w.heap.size w w' :=
  (names_any pb N fp F w h.1 (by omega)).mono fun e w' ⟨v, ks, he, h1, h2, h3, h4, hB⟩ => by
    obtain ⟨a, c, rfl, _⟩ := strs_of_row h4
    exact ⟨a, ks, c, he, h1, h2, h3, h4, h.kept (below_turned hB), hB⟩
theorem St.crash {w0 w : World} {pb N M : Nat} {fp : Nat → Prop} {F : Tab} {v : Value} {zs : List Int} (h : St w0 w pb fp N F) (hN : N < 100000) (hf : Fits F M) (hM : M ≤ 50000000000000) (hk : ∀ w3, Turned fp w w3 → IntsV w3 v zs) :
    Calls Try.prog 19 #[.pointer (some ⟨pb, 0, none⟩), v] w fun e w' => e = .returned (.tuple #[]) ∧ ∃ fp' ks, NamesOf F ks ∧ St w0 w' pb fp' N (crashTo F ks zs ks.length) :=
  (crash_any pb N M fp F v zs w h.1 (by omega) hf hM hk).mono fun e w' ⟨he, ks, h1, hd⟩ => ⟨he, _, ks, h1, h.did hd⟩

/-- A new row of bytes. -/
theorem reads_lit (w : World) (l : List (BitVec 8)) (hl : l.length ≤ maxLen) : ReadsV (w.alloc (.cells (bytesV l).toArray 5)) (.slice (some ⟨w.heap.size, 0, none⟩) l.length l.length) l := by
  refine ⟨_, l.length, rfl, (fun h => by cases h), Nat.le_refl _, hl, hl, .inr ⟨w.heap.size, 0, rfl, fun i hi => ?_⟩⟩
  rw [Nat.zero_add, cell_of_row _ w.heap.size i _ 5 (0, 0) (heap_alloc_new w _)]
  simp [bytesV, nth, hi]

theorem bytesOf_app (F : Tab) (k : Key) (b : List (BitVec 8)) : bytesOf (appF F k b) k = bytesOf F k ++ b := by simp [bytesOf, appF, upd_same]
theorem syncOf_app (F : Tab) (k : Key) (b : List (BitVec 8)) : syncOf (appF F k b) k = syncOf F k := by simp [syncOf, appF, upd_same]
theorem bytesOf_sync (F : Tab) (k : Key) : bytesOf (syncF F k) k = bytesOf F k := by simp [bytesOf, syncF, upd_same]
theorem syncOf_sync (F : Tab) (k : Key) : syncOf (syncF F k) k = (bytesOf F k).length := by simp [syncOf, syncF, upd_same]
theorem fits_app {F : Tab} {M : Nat} (h : Fits F M) (k : Key) (b : List (BitVec 8)) : Fits (appF F k b) (M + b.length) := by
  intro j l s hj
  unfold appF at hj
  by_cases e : j = k
  · subst e
    rw [upd_same] at hj
    simp only [Option.some.injEq, Prod.mk.injEq] at hj
    obtain ⟨rfl, rfl⟩ := hj
    have := h.sync j
    simp; omega
  · rw [upd_other _ _ e] at hj
    have := h j l s hj
    omega
theorem fits_sync {F : Tab} {M : Nat} (h : Fits F M) (k : Key) : Fits (syncF F k) M := by
  unfold syncF
  refine h.upd fun l s e => ?_
  simp only [Option.some.injEq, Prod.mk.injEq] at e
  obtain ⟨rfl, rfl⟩ := e
  exact ⟨Nat.le_refl _, (h.sync k).2⟩
theorem fits_none : Fits none' 0 := fun _ _ _ h => by simp [none'] at h

/-- The example's disks. -/
def wF1 : Tab := appF none' [97] [1#8, 2#8]
def wF2 : Tab := syncF wF1 [97]
def wF3 : Tab := appF wF2 [97] [3#8, 4#8, 5#8]
def wF4 : Tab := crashTo wF3 [[97]] [1] 1
theorem wFits1 : Fits wF1 10 := fun k l s h => by have := fits_app fits_none [97] [1#8, 2#8] k l s h; simp at this; omega
theorem wFits2 : Fits wF2 10 := fits_sync wFits1 _
theorem wFits3 : Fits wF3 20 := fun k l s h => by have := fits_app wFits2 [97] [3#8, 4#8, 5#8] k l s h; simp at this; omega
theorem wFits4 : Fits wF4 20 := crashTo_fits wFits3 _ _ _
theorem wNames3 : NamesOf wF3 [[97]] := by
  refine ⟨List.pairwise_singleton _ _, by simp, fun k => ?_⟩
  by_cases e : k = [97]
  · subst e; simp [wF3, appF, upd_same]
  · simp [wF3, appF, upd_other _ _ e, wF2, syncF, wF1, none', e]
theorem wNames4 : NamesOf wF4 [[97]] := by
  refine ⟨List.pairwise_singleton _ _, by simp, fun k => ?_⟩
  by_cases e : k = [97]
  · subst e; decide
  · simp [wF4, crashTo, wF3, appF, upd_other _ _ e, wF2, syncF, wF1, none', e]
theorem wBytes4 : bytesOf wF4 [97] = [1#8, 2#8, 3#8] := by decide
theorem wLoose4 : (bytesOf wF4 [97]).length - syncOf wF4 [97] = 0 := by decide
theorem wLoose3 : (bytesOf wF3 [97]).length - syncOf wF3 [97] = 3 := by decide
theorem wB4 : wF4 [98] = none := by decide

def sA : ByteArray := ⟨#[97]⟩
def sB : ByteArray := ⟨#[98]⟩
theorem key_sA : key ⟨#[97]⟩ = [97] := rfl
theorem key_sB : key ⟨#[98]⟩ = [98] := rfl
theorem nm_a : nm ⟨#[97]⟩ = true := by decide
theorem nm_1 : nm ⟨#[49]⟩ = false := by decide
theorem ints_one (w : World) (x : Int) (hx : (Lit.int .i64 x).wf = true) (tu : Nat → Prop) (ht : ¬ tu w.heap.size) : ∀ w3, Turned tu (w.alloc (.cells #[.int .i64 x] 3)) w3 → IntsV w3 (.slice (some ⟨w.heap.size, 0, none⟩) 1 1) [x] := fun w3 hT => by
  refine ⟨_, 1, rfl, by unfold maxLen; simp, by simpa using hx, .inr ⟨w.heap.size, 0, rfl, fun i hi => ?_⟩⟩
  obtain rfl : i = 0 := by simp at hi; omega
  rw [cell_of_row _ w.heap.size 0 _ 3 (0, 0) ((hT.block w.heap.size (by simp) ht).trans (heap_alloc_new w _))]
  rfl
theorem reads12 (w : World) : ReadsV (w.alloc (.cells #[.int .u8 1, .int .u8 2] 5)) (.slice (some ⟨w.heap.size, 0, none⟩) 2 2) [1#8, 2#8] := reads_lit w [1#8, 2#8] (by decide)
theorem reads345 (w : World) : ReadsV (w.alloc (.cells #[.int .u8 3, .int .u8 4, .int .u8 5] 5)) (.slice (some ⟨w.heap.size, 0, none⟩) 3 3) [3#8, 4#8, 5#8] := reads_lit w [3#8, 4#8, 5#8] (by decide)
theorem reads123 (w : World) : ReadsV (w.alloc (.cells #[.int .u8 1, .int .u8 2, .int .u8 3] 5)) (.slice (some ⟨w.heap.size, 0, none⟩) 3 3) [1#8, 2#8, 3#8] := reads_lit w [1#8, 2#8, 3#8] (by decide)
theorem eqlP (a : Addr) (w : World) : (binOp .eql 25 (.pointer (some a)) (.pointer none)).run Try.prog w = .ok (.bool false) w := by kernel_rfl

theorem new_st (w : World) : Calls Try.prog 10 #[] w fun e w1 => ∃ pb fp, e = .returned (.pointer (some ⟨pb, 0, none⟩)) ∧ St w w1 pb fp 0 none' ∧ (∀ i, fp i → w.heap.size ≤ i) ∧ Turned (fun _ => False) w w1 :=
  (new_any w).mono fun e w1 ⟨he, hw⟩ => by
    subst hw
    exact ⟨w.heap.size, fun i => i = w.heap.size, he, St.new w, fun i hi => by simp at hi; omega, Turned.alloc _ _ _⟩

set_option maxRecDepth 100000 in
set_option maxHeartbeats 1000000 in
theorem works_any (w : World) : Calls Try.prog 9 #[] w fun e w' => e = .returned (.bool true) ∧ Below w.heap.size w w' := by
  go_enter Try.func9, Try.ntmps9
  go_wp2_with (first
    | (go_at_call 10; refine (new_st _).mono ?_; rintro e w1 ⟨pb, fp0, rfl, h0, -, -⟩; have H0 : Hid (St w w1 pb fp0 0 none') := h0; clear h0; have e1 := eqlP ⟨pb, 0, none⟩)
    | (go_at_call 17; have := H8; refine (St.names H8.out (by decide)).mono ?_; rintro e w9 ⟨na, ks, nc, rfl, hks, -, -, -, h9, -⟩; obtain rfl := hks.unique wNames4; have H9 : Hid (St w w9 pb fp8 2 wF4) := h9; clear h9 hks)
    | (go_at_call 20; have := H7; refine (append_no pb ⟨#[49]⟩ _ _ (by decide) nm_1).mono ?_; rintro e w8 ⟨rfl, hw⟩; have hw2 := hw.symm; clear hw; subst hw2; have H8 : Hid (St w _ pb fp7 2 wF4) := H7.out; obtain ⟨fp8, hfp8⟩ : ∃ f, f = fp7 := ⟨_, rfl⟩; subst hfp8)
    | (go_at_call 21; have := H6; refine (St.sync_no (s := ⟨#[98]⟩) H6.out (by decide) wB4).mono ?_; rintro e w7 ⟨rfl, fp7, h7⟩; have H7 : Hid (St w w7 pb fp7 2 wF4) := h7; clear h7)
    | (go_at_call 18; have := H5b; refine (St.loose (s := ⟨#[97]⟩) H5b.out (by decide) wFits4 (by decide)).mono ?_; rw [key_sA, wLoose4]; rintro e w6 ⟨rfl, h6⟩; have H6 : Hid (St w w6 pb fp4 2 wF4) := h6; clear h6)
    | (go_at_call 14; have := H5; refine (same_yes _ _ [1#8, 2#8, 3#8] _ (H5.out.2.below ((Below.refl _ _).alloc (Nat.le_refl _) _)) (reads123 _)).mono ?_; rintro e wb ⟨rfl, hw⟩; have H5b : Hid (St w wb pb fp4 2 wF4) := (show St w wb pb fp4 2 wF4 by rw [hw]; exact H5.out.1.kept (Turned.alloc _ _ _)); clear hw H5)
    | (go_at_call 15; have := H4; refine (St.read (s := ⟨#[97]⟩) H4.out (by decide) wFits4 (by decide)).mono ?_; rw [key_sA, wBytes4]; rintro e w5 ⟨v', rfl, ho, h5, hB⟩; have H5 : Hid (St w w5 pb fp4 2 wF4 ∧ ReadsV w5 v' [1#8, 2#8, 3#8]) := And.intro h5 (ReadsV.of_own ho); clear h5 ho hB)
    | (go_at_call 19; have := H3; refine (St.crash (zs := [1]) (H3.out.kept (Turned.alloc _ _ _)) (by decide) wFits3 (by decide) (ints_one _ 1 (by decide) _ (fun h => Nat.lt_irrefl _ (H3.out.1.lt h)))).mono ?_; rintro e w4 ⟨rfl, fp4, ks4, hk4, h4⟩; obtain rfl := hk4.unique wNames3; have H4 : Hid (St w w4 pb fp4 2 wF4) := h4; clear h4 hk4)
    | (go_at_call 18; have := H2; refine (St.loose (s := ⟨#[97]⟩) H2.out (by decide) wFits3 (by decide)).mono ?_; rw [key_sA, wLoose3]; rintro e w3 ⟨rfl, h3⟩; have H3 : Hid (St w w3 pb fp2 2 wF3) := h3; clear h3)
    | (go_at_call 20; have := H1; refine (St.app (s := ⟨#[97]⟩) (b := [3#8, 4#8, 5#8]) (H1.out.kept (Turned.alloc _ _ _)) (by decide) (by decide) wFits2 (by decide) (reads345 _) (by decide) nm_a).mono ?_; rintro e w2 ⟨rfl, fp2, h2⟩; have H2 : Hid (St w w2 pb fp2 2 wF3) := h2; clear h2)
    | (go_at_call 21; have := HA; refine (St.sync (s := ⟨#[97]⟩) HA.out (by decide) (by decide) wFits1 (by decide) rfl).mono ?_; rintro e w2 ⟨rfl, fp1, h1⟩; have H1 : Hid (St w w2 pb fp1 1 wF2) := h1; clear h1)
    | (go_at_call 20; have := H0; refine (St.app (s := ⟨#[97]⟩) (b := [1#8, 2#8]) (H0.out.kept (Turned.alloc _ _ _)) (by decide) (by decide) fits_none (by decide) (reads12 _) (by decide) nm_a).mono ?_; rintro e w2 ⟨rfl, fpA, hA⟩; have HA : Hid (St w w2 pb fpA 1 wF1) := hA; clear hA))
  go_ret
  exact ⟨rfl, H9.out.2.1⟩

end Go.Proofs.Ytcmnjiichkcmgaa
