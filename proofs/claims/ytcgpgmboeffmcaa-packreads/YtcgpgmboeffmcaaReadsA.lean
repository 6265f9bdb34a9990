/-
  The law PackReads, case by case, where the bytes begin with a row.
-/
import Derived.Test.YtcgpgmboeffmcaaMore
import Derived.Test.YtcgpgmboeffmcaaRefs2
namespace Go.Proofs.Ytcgpgmboeffmcaa
open Go.RowKit Pack
set_option linter.unusedVariables false

theorem tailC {w : World} {a : Option Addr} {k m : Nat} {l : List (BitVec 8)} (h : ReadsV w (.slice a (k + m) (k + m)) l) (hm : 0 < m) : ReadsV w (.slice (a.map (fun x => x.add k)) m m) (l.drop k) := by
  have := tailA h (Nat.le_add_right _ _) (show ¬ k + m = k by omega)
  rwa [Nat.add_sub_cancel_left] at this

set_option maxRecDepth 100000 in
set_option maxHeartbeats 400000 in
theorem reads_short (a : Option Addr) (n cap k m : Nat) (l : List (BitVec 8)) (w : World) (HR : Hid (ReadsV w (.slice a n cap) l)) (HK : Hid (rd 0 l = .ok k)) (HM : Hid (val (l.take k) = m)) (HN : Hid (l.length - k = (n - k))) (HLE : Hid (l.length - k < m)) (hkn : k ≤ n) (hnc : n ≤ cap) (hcm : cap ≤ 9223372036854775807) (hbig : ¬ 3000 < n) (hck : ¬ cap = k) (hm64 : m < 18446744073709551616) :
    Calls Try.prog 4 #[.slice a n cap] w fun e w' => e = .returned (.bool true) ∧ Below w.heap.size w w' := by
  go_enter Try.func4, Try.ntmps4
  go_wp2_with (first
    | (go_at_call 19; refine (readUint_ok _ l k m _ HR.out HK.out HM.out).mono ?_; rw [HN.out]; rintro e w1 ⟨a1, c1, rfl, hr, hB⟩; have HX1 : Hid (ReadsV w1 (.slice a1 (n - k) c1) (l.drop k)) := hr; have HB1 : Hid (Below w.heap.size w w1) := hB; have HR1 : Hid (ReadsV w1 (.slice a n cap) l) := HR.out.below HB1.out; clear hr hB)
    | (go_at_call 20; refine (rreadUint_ok _ l k m _ HR1.out HK.out HM.out).mono ?_; rintro e w' ⟨rfl, rfl⟩)
    | (go_at_call 21; refine (readInt_ok _ l k m _ HR1.out HK.out HM.out).mono ?_; rw [HN.out]; rintro e w2 ⟨a2, c2, rfl, hr, hB⟩; have HX2 : Hid (ReadsV w2 (.slice a2 (n - k) c2) (l.drop k)) := hr; have HB2 : Hid (Below w.heap.size w w2) := HB1.out.trans (hB.mono HB1.out.size); have HR2 : Hid (ReadsV w2 (.slice a n cap) l) := HR.out.below HB2.out; clear hr hB)
    | (go_at_call 22; refine (rreadInt_ok _ l k m _ HR2.out HK.out HM.out).mono ?_; rintro e w' ⟨rfl, rfl⟩)
    | (go_at_call 23; refine (readBytes_short _ l k m _ HR2.out HK.out HM.out HLE.out).mono ?_; rintro e w3 ⟨rfl, hB⟩; have HB3 : Hid (Below w.heap.size w w3) := HB2.out.trans (hB.mono HB2.out.size); have HR3 : Hid (ReadsV w3 (.slice a n cap) l) := HR.out.below HB3.out; clear hB)
    | (go_at_call 24; refine (rreadBytes_short _ l k m _ HR3.out HK.out HM.out HLE.out).mono ?_; rintro e w' ⟨rfl, rfl⟩)
    | (go_at_call 16; have := HB3; refine (same_yes _ _ [] _ (ReadsV.nil _) (ReadsV.nil _)).mono ?_; rintro e w' ⟨rfl, rfl⟩)
    | (go_at_call 16; refine (same_yes _ _ (l.drop k) _ HX2.out (tailA HR2.out hkn hck)).mono ?_; rintro e w' ⟨rfl, rfl⟩)
    | (go_at_call 16; refine (same_yes _ _ (l.drop k) _ HX1.out (tailA HR1.out hkn hck)).mono ?_; rintro e w' ⟨rfl, rfl⟩)
    | (go_at_call 8; refine (works_any _).mono ?_; rintro e w4 ⟨rfl, hB⟩))
  go_ret
  exact ⟨rfl, HB3.out.trans (hB.mono HB3.out.size)⟩

set_option maxRecDepth 100000 in
set_option maxHeartbeats 400000 in
theorem reads_ok (a : Option Addr) (n cap k m : Nat) (l : List (BitVec 8)) (w : World) (HR : Hid (ReadsV w (.slice a n cap) l)) (HK : Hid (rd 0 l = .ok k)) (HM : Hid (val (l.take k) = m)) (HN : Hid (l.length - k = (n - k))) (HLE : Hid (m ≤ l.length - k)) (hkn : k ≤ n) (hnc : n ≤ cap) (hcm : cap ≤ 9223372036854775807) (hbig : ¬ 3000 < n) (hck : ¬ cap = k) (hle : m ≤ n - k) (hckm : ¬ cap = k + m) (hm64 : m < 18446744073709551616) :
    Calls Try.prog 4 #[.slice a n cap] w fun e w' => e = .returned (.bool true) ∧ Below w.heap.size w w' := by
  go_enter Try.func4, Try.ntmps4
  go_wp2_with (first
    | (go_at_call 19; refine (readUint_ok _ l k m _ HR.out HK.out HM.out).mono ?_; rw [HN.out]; rintro e w1 ⟨a1, c1, rfl, hr, hB⟩; have HX1 : Hid (ReadsV w1 (.slice a1 (n - k) c1) (l.drop k)) := hr; have HB1 : Hid (Below w.heap.size w w1) := hB; have HR1 : Hid (ReadsV w1 (.slice a n cap) l) := HR.out.below HB1.out; clear hr hB)
    | (go_at_call 20; refine (rreadUint_ok _ l k m _ HR1.out HK.out HM.out).mono ?_; rintro e w' ⟨rfl, rfl⟩)
    | (go_at_call 21; refine (readInt_ok _ l k m _ HR1.out HK.out HM.out).mono ?_; rw [HN.out]; rintro e w2 ⟨a2, c2, rfl, hr, hB⟩; have HX2 : Hid (ReadsV w2 (.slice a2 (n - k) c2) (l.drop k)) := hr; have HB2 : Hid (Below w.heap.size w w2) := HB1.out.trans (hB.mono HB1.out.size); have HR2 : Hid (ReadsV w2 (.slice a n cap) l) := HR.out.below HB2.out; clear hr hB)
    | (go_at_call 22; refine (rreadInt_ok _ l k m _ HR2.out HK.out HM.out).mono ?_; rintro e w' ⟨rfl, rfl⟩)
    | (go_at_call 23; refine (readBytes_ok _ l k m _ HR2.out HK.out HM.out HLE.out).mono ?_; rintro e w3 ⟨sv, rv, rfl, hs, hr, hB⟩; have HS3 : Hid (ReadsV w3 sv ((l.drop k).take m)) := hs; have HX3 : Hid (ReadsV w3 rv (l.drop (k + m))) := hr; have HB3 : Hid (Below w.heap.size w w3) := HB2.out.trans (hB.mono HB2.out.size); have HR3 : Hid (ReadsV w3 (.slice a n cap) l) := HR.out.below HB3.out; clear hs hr hB)
    | (go_at_call 24; refine (rreadBytes_ok _ l k m _ HR3.out HK.out HM.out HLE.out).mono ?_; rintro e w5 ⟨tv, rfl, ht, he⟩; have HT3 : Hid (ReadsV w3 tv ((l.drop k).take m)) := ht; subst he; clear ht)
    | (go_at_call 16; have := HDONE; refine (same_yes _ _ (l.drop (k + m)) _ HX3.out (tailA HR3.out (by omega) hckm)).mono ?_; rintro e w' ⟨rfl, rfl⟩)
    | (go_at_call 16; refine (same_yes _ _ ((l.drop k).take m) _ HS3.out HT3.out).mono ?_; rintro e w' ⟨rfl, rfl⟩; have HDONE : Hid True := trivial)
    | (go_at_call 16; refine (same_yes _ _ (l.drop k) _ HX2.out (tailA HR2.out hkn hck)).mono ?_; rintro e w' ⟨rfl, rfl⟩)
    | (go_at_call 16; refine (same_yes _ _ (l.drop k) _ HX1.out (tailA HR1.out hkn hck)).mono ?_; rintro e w' ⟨rfl, rfl⟩)
    | (go_at_call 8; refine (works_any _).mono ?_; rintro e w4 ⟨rfl, hB⟩))
  go_ret
  exact ⟨rfl, HB3.out.trans (hB.mono HB3.out.size)⟩

set_option maxRecDepth 100000 in
set_option maxHeartbeats 400000 in
theorem reads_full (a : Option Addr) (k m : Nat) (l : List (BitVec 8)) (w : World) (HR : Hid (ReadsV w (.slice a (k + m) (k + m)) l)) (HK : Hid (rd 0 l = .ok k)) (HM : Hid (val (l.take k) = m)) (HN : Hid (l.length - k = m)) (HLE : Hid (m ≤ l.length - k)) (hbig : ¬ 3000 < k + m) (hm0 : 0 < m) (hm64 : m < 18446744073709551616) :
    Calls Try.prog 4 #[.slice a (k + m) (k + m)] w fun e w' => e = .returned (.bool true) ∧ Below w.heap.size w w' := by
  go_enter Try.func4, Try.ntmps4
  go_wp2_with (first
    | (go_at_call 19; refine (readUint_ok _ l k m _ HR.out HK.out HM.out).mono ?_; rw [HN.out]; rintro e w1 ⟨a1, c1, rfl, hr, hB⟩; have HX1 : Hid (ReadsV w1 (.slice a1 m c1) (l.drop k)) := hr; have HB1 : Hid (Below w.heap.size w w1) := hB; have HR1 : Hid (ReadsV w1 (.slice a (k + m) (k + m)) l) := HR.out.below HB1.out; clear hr hB)
    | (go_at_call 20; refine (rreadUint_ok _ l k m _ HR1.out HK.out HM.out).mono ?_; rintro e w' ⟨rfl, rfl⟩)
    | (go_at_call 21; refine (readInt_ok _ l k m _ HR1.out HK.out HM.out).mono ?_; rw [HN.out]; rintro e w2 ⟨a2, c2, rfl, hr, hB⟩; have HX2 : Hid (ReadsV w2 (.slice a2 m c2) (l.drop k)) := hr; have HB2 : Hid (Below w.heap.size w w2) := HB1.out.trans (hB.mono HB1.out.size); have HR2 : Hid (ReadsV w2 (.slice a (k + m) (k + m)) l) := HR.out.below HB2.out; clear hr hB)
    | (go_at_call 22; refine (rreadInt_ok _ l k m _ HR2.out HK.out HM.out).mono ?_; rintro e w' ⟨rfl, rfl⟩)
    | (go_at_call 23; refine (readBytes_ok _ l k m _ HR2.out HK.out HM.out HLE.out).mono ?_; rintro e w3 ⟨sv, rv, rfl, hs, hr, hB⟩; have HS3 : Hid (ReadsV w3 sv ((l.drop k).take m)) := hs; have HX3 : Hid (ReadsV w3 rv (l.drop (k + m))) := hr; have HB3 : Hid (Below w.heap.size w w3) := HB2.out.trans (hB.mono HB2.out.size); have HR3 : Hid (ReadsV w3 (.slice a (k + m) (k + m)) l) := HR.out.below HB3.out; clear hs hr hB)
    | (go_at_call 24; refine (rreadBytes_ok _ l k m _ HR3.out HK.out HM.out HLE.out).mono ?_; rintro e w5 ⟨tv, rfl, ht, he⟩; have HT3 : Hid (ReadsV w3 tv ((l.drop k).take m)) := ht; subst he; clear ht)
    | (go_at_call 16; have := HDONE; refine (same_yes _ _ (l.drop (k + m)) _ HX3.out (tailB HR3.out (Nat.le_refl _))).mono ?_; rintro e w' ⟨rfl, rfl⟩)
    | (go_at_call 16; refine (same_yes _ _ ((l.drop k).take m) _ HS3.out HT3.out).mono ?_; rintro e w' ⟨rfl, rfl⟩; have HDONE : Hid True := trivial)
    | (go_at_call 16; refine (same_yes _ _ (l.drop k) _ HX2.out (tailC HR2.out hm0)).mono ?_; rintro e w' ⟨rfl, rfl⟩)
    | (go_at_call 16; refine (same_yes _ _ (l.drop k) _ HX1.out (tailC HR1.out hm0)).mono ?_; rintro e w' ⟨rfl, rfl⟩)
    | (go_at_call 8; refine (works_any _).mono ?_; rintro e w4 ⟨rfl, hB⟩))
  go_ret
  exact ⟨rfl, HB3.out.trans (hB.mono HB3.out.size)⟩

set_option maxRecDepth 100000 in
set_option maxHeartbeats 400000 in
theorem reads_end (a : Option Addr) (k m : Nat) (l : List (BitVec 8)) (w : World) (HR : Hid (ReadsV w (.slice a k k) l)) (HK : Hid (rd 0 l = .ok k)) (HM : Hid (val (l.take k) = m)) (HN : Hid (l.length - k = 0)) (HLE : Hid (l.length - k < m)) (hbig : ¬ 3000 < k) (hm0 : 0 < m) (hm64 : m < 18446744073709551616) :
    Calls Try.prog 4 #[.slice a k k] w fun e w' => e = .returned (.bool true) ∧ Below w.heap.size w w' := by
  go_enter Try.func4, Try.ntmps4
  go_wp2_with (first
    | (go_at_call 19; refine (readUint_ok _ l k m _ HR.out HK.out HM.out).mono ?_; rw [HN.out]; rintro e w1 ⟨a1, c1, rfl, hr, hB⟩; have HX1 : Hid (ReadsV w1 (.slice a1 0 c1) (l.drop k)) := hr; have HB1 : Hid (Below w.heap.size w w1) := hB; have HR1 : Hid (ReadsV w1 (.slice a k k) l) := HR.out.below HB1.out; clear hr hB)
    | (go_at_call 20; refine (rreadUint_ok _ l k m _ HR1.out HK.out HM.out).mono ?_; rintro e w' ⟨rfl, rfl⟩)
    | (go_at_call 21; refine (readInt_ok _ l k m _ HR1.out HK.out HM.out).mono ?_; rw [HN.out]; rintro e w2 ⟨a2, c2, rfl, hr, hB⟩; have HX2 : Hid (ReadsV w2 (.slice a2 0 c2) (l.drop k)) := hr; have HB2 : Hid (Below w.heap.size w w2) := HB1.out.trans (hB.mono HB1.out.size); have HR2 : Hid (ReadsV w2 (.slice a k k) l) := HR.out.below HB2.out; clear hr hB)
    | (go_at_call 22; refine (rreadInt_ok _ l k m _ HR2.out HK.out HM.out).mono ?_; rintro e w' ⟨rfl, rfl⟩)
    | (go_at_call 23; refine (readBytes_short _ l k m _ HR2.out HK.out HM.out HLE.out).mono ?_; rintro e w3 ⟨rfl, hB⟩; have HB3 : Hid (Below w.heap.size w w3) := HB2.out.trans (hB.mono HB2.out.size); have HR3 : Hid (ReadsV w3 (.slice a k k) l) := HR.out.below HB3.out; clear hB)
    | (go_at_call 24; refine (rreadBytes_short _ l k m _ HR3.out HK.out HM.out HLE.out).mono ?_; rintro e w' ⟨rfl, rfl⟩)
    | (go_at_call 16; have := HB3; refine (same_yes _ _ [] _ (ReadsV.nil _) (ReadsV.nil _)).mono ?_; rintro e w' ⟨rfl, rfl⟩)
    | (go_at_call 16; refine (same_yes _ _ (l.drop k) _ HX2.out (tailB HR2.out (Nat.le_refl _))).mono ?_; rintro e w' ⟨rfl, rfl⟩)
    | (go_at_call 16; refine (same_yes _ _ (l.drop k) _ HX1.out (tailB HR1.out (Nat.le_refl _))).mono ?_; rintro e w' ⟨rfl, rfl⟩)
    | (go_at_call 8; refine (works_any _).mono ?_; rintro e w4 ⟨rfl, hB⟩))
  go_ret
  exact ⟨rfl, HB3.out.trans (hB.mono HB3.out.size)⟩

set_option maxRecDepth 100000 in
set_option maxHeartbeats 400000 in
theorem reads_end0 (a : Option Addr) (k : Nat) (l : List (BitVec 8)) (w : World) (HR : Hid (ReadsV w (.slice a k k) l)) (HK : Hid (rd 0 l = .ok k)) (HM : Hid (val (l.take k) = 0)) (HN : Hid (l.length - k = 0)) (HLE : Hid (0 ≤ l.length - k)) (hbig : ¬ 3000 < k) :
    Calls Try.prog 4 #[.slice a k k] w fun e w' => e = .returned (.bool true) ∧ Below w.heap.size w w' := by
  go_enter Try.func4, Try.ntmps4
  go_wp2_with (first
    | (go_at_call 19; refine (readUint_ok _ l k 0 _ HR.out HK.out HM.out).mono ?_; rw [HN.out]; rintro e w1 ⟨a1, c1, rfl, hr, hB⟩; have HX1 : Hid (ReadsV w1 (.slice a1 0 c1) (l.drop k)) := hr; have HB1 : Hid (Below w.heap.size w w1) := hB; have HR1 : Hid (ReadsV w1 (.slice a k k) l) := HR.out.below HB1.out; clear hr hB)
    | (go_at_call 20; refine (rreadUint_ok _ l k 0 _ HR1.out HK.out HM.out).mono ?_; rintro e w' ⟨rfl, rfl⟩)
    | (go_at_call 21; refine (readInt_ok _ l k 0 _ HR1.out HK.out HM.out).mono ?_; rw [HN.out]; rintro e w2 ⟨a2, c2, rfl, hr, hB⟩; have HX2 : Hid (ReadsV w2 (.slice a2 0 c2) (l.drop k)) := hr; have HB2 : Hid (Below w.heap.size w w2) := HB1.out.trans (hB.mono HB1.out.size); have HR2 : Hid (ReadsV w2 (.slice a k k) l) := HR.out.below HB2.out; clear hr hB)
    | (go_at_call 22; refine (rreadInt_ok _ l k 0 _ HR2.out HK.out HM.out).mono ?_; rintro e w' ⟨rfl, rfl⟩)
    | (go_at_call 23; refine (readBytes_ok _ l k 0 _ HR2.out HK.out HM.out HLE.out).mono ?_; rintro e w3 ⟨sv, rv, rfl, hs, hr, hB⟩; have HS3 : Hid (ReadsV w3 sv ((l.drop k).take 0)) := hs; have HX3 : Hid (ReadsV w3 rv (l.drop k)) := hr; have HB3 : Hid (Below w.heap.size w w3) := HB2.out.trans (hB.mono HB2.out.size); have HR3 : Hid (ReadsV w3 (.slice a k k) l) := HR.out.below HB3.out; clear hs hr hB)
    | (go_at_call 24; refine (rreadBytes_ok _ l k 0 _ HR3.out HK.out HM.out HLE.out).mono ?_; rintro e w5 ⟨tv, rfl, ht, he⟩; have HT3 : Hid (ReadsV w3 tv ((l.drop k).take 0)) := ht; subst he; clear ht)
    | (go_at_call 16; have := HDONE; refine (same_yes _ _ (l.drop k) _ HX3.out (tailB HR3.out (Nat.le_refl _))).mono ?_; rintro e w' ⟨rfl, rfl⟩)
    | (go_at_call 16; refine (same_yes _ _ ((l.drop k).take 0) _ HS3.out HT3.out).mono ?_; rintro e w' ⟨rfl, rfl⟩; have HDONE : Hid True := trivial)
    | (go_at_call 16; refine (same_yes _ _ (l.drop k) _ HX2.out (tailB HR2.out (Nat.le_refl _))).mono ?_; rintro e w' ⟨rfl, rfl⟩)
    | (go_at_call 16; refine (same_yes _ _ (l.drop k) _ HX1.out (tailB HR1.out (Nat.le_refl _))).mono ?_; rintro e w' ⟨rfl, rfl⟩)
    | (go_at_call 8; refine (works_any _).mono ?_; rintro e w4 ⟨rfl, hB⟩))
  go_ret
  exact ⟨rfl, HB3.out.trans (hB.mono HB3.out.size)⟩

end Go.Proofs.Ytcgpgmboeffmcaa
