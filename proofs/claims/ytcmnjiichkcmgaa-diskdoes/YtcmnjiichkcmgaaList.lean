/-
  The contract of Names.
-/
import Derived.Test.YtcmnjiichkcmgaaActs3
import Derived.Test.YtcmnjiichkcmgaaIter
import Derived.Maps.Ext
import Derived.Sort.KeysCollected
namespace Go.Proofs.Ytcmnjiichkcmgaa
open Go.RowKit Go.Maps Go.Sort

/-- All files' names, rising. -/
structure NamesOf (F : Tab) (ks : List Key) : Prop where
  sorted : ks.Pairwise (fun a b => a ≤ b)
  once : ks.Nodup
  mem : ∀ k, k ∈ ks ↔ (F k).isSome = true

theorem NamesOf.unique {F : Tab} {ks ks' : List Key} (h : NamesOf F ks) (h' : NamesOf F ks') : ks = ks' := by
  refine List.Perm.eq_of_pairwise (le := fun a b => a ≤ b) (fun a b _ _ h1 h2 => List.le_antisymm h1 h2) h.sorted h'.sorted ?_
  exact (List.perm_ext_iff_of_nodup h.once h'.once).2 (fun x => (h.mem x).trans (h'.mem x).symm)

theorem names_of_map {w : World} {mb n : Nat} {D : DataW Value} {F : Tab} (hown : w.ownsMap Try.prog 9 RV mb n D) (hno : ∀ k, F k = none → Maps.has D (.string k) = false) (hyes : ∀ k x, F k = some x → Maps.has D (.string k) = true) {ss : List Key} (hp : ss.Perm (strKeys D)) :
    NamesOf F (ss.mergeSort (fun x y => decide (x ≤ y))) ∧ ss.length = Maps.size D ∧ ∀ k ∈ ss.mergeSort (fun x y => decide (x ≤ y)), k.length ≤ maxLen := by
  obtain ⟨es, hD, hpw, _⟩ := hown.entries law9
  obtain ⟨es', hD', hko⟩ := hown.keysOf
  obtain rfl : es = es' := by rw [hD] at hD'; simpa using hD'
  have hle := strKeys_le hown Try.underlying9
  subst hD
  have hk : ∀ p ∈ es, ∃ x, p.1 = .string x := fun p hp => by
    obtain ⟨v, hv⟩ := hko p hp
    obtain ⟨x, _, hx, _⟩ := Maps.keyOf_str Try.underlying9 hv
    exact ⟨x, hx⟩
  have hnd : (strKeys (DataW.map es)).Nodup := by
    show (es.map fun p => strOf p.1).Nodup
    refine List.pairwise_map.2 (hpw.imp_of_mem fun {p q} hp' hq' hne e => hne ?_)
    obtain ⟨a, ha⟩ := hk p hp'
    obtain ⟨b, hb⟩ := hk q hq'
    rw [ha, hb] at e ⊢
    exact congrArg _ e
  have hmem : ∀ x, x ∈ strKeys (DataW.map es) ↔ Maps.has (DataW.map es) (.string x) = true := fun x => by
    rw [has_eq, List.any_eq_true]
    show x ∈ es.map (fun p => strOf p.1) ↔ _
    rw [List.mem_map]
    constructor
    · rintro ⟨p, hp', rfl⟩
      obtain ⟨a, ha⟩ := hk p hp'
      exact ⟨p, hp', by rw [ha]; simp [Lit.sameKey, strOf]⟩
    · rintro ⟨p, hp', hs⟩
      obtain ⟨a, ha⟩ := hk p hp'
      rw [ha] at hs
      exact ⟨p, hp', by rw [ha]; simpa [Lit.sameKey, strOf] using hs⟩
  have hperm := (List.mergeSort_perm ss (fun x y => decide (x ≤ y))).trans hp
  refine ⟨⟨?_, ?_, ?_⟩, ?_, ?_⟩
  · have tr : ∀ a b c : List UInt8, leB a b = true → leB b c = true → leB a c = true := fun a b c h1 h2 => by simp only [leB, decide_eq_true_eq] at *; exact List.le_trans h1 h2
    have to : ∀ a b : List UInt8, (leB a b || leB b a) = true := fun a b => by simp only [leB, Bool.or_eq_true, decide_eq_true_eq]; exact List.le_total a b
    exact (List.pairwise_mergeSort tr to ss).imp (fun h => by simpa [leB] using h)
  · exact hperm.nodup_iff.2 hnd
  · intro k
    rw [hperm.mem_iff, hmem]
    cases hF : F k with
    | none => rw [hno k hF]; simp
    | some x => rw [hyes k x hF]; simp
  · rw [hp.length_eq]
    show (es.map fun p => strOf p.1).length = es.length
    simp
  · intro k hk'
    exact hle k (hperm.mem_iff.1 hk')

set_option maxRecDepth 100000 in
set_option maxHeartbeats 1000000 in
theorem names_some (pb mb nn : Nat) (D0 : DataW Value) (w : World) (hc : w.cell? ⟨pb, 0, none⟩ = some (.map (some mb))) (hown : w.ownsMap Try.prog 9 RV mb nn D0) (hmax : Maps.size D0 ≤ maxLen) (hbytes : Maps.size D0 * 16 ≤ 140737488355328) :
    Calls Try.prog 17 #[.pointer (some ⟨pb, 0, none⟩)] w fun e w' => ∃ (v : Value) (ss : List (List UInt8)), e = .returned v ∧ ss.Perm (strKeys D0) ∧
      w'.ownsRow w.heap.size 9 1 v ss.length ((ss.mergeSort (fun x y => decide (x ≤ y))).map encStr) ∧ Below w.heap.size w w' := by
  have HO : Hid (w.ownsMap Try.prog 9 RV mb nn D0) := hown
  clear hown
  refine (callsIn_wide (n := 6)).1 ?_
  have hfK : Fence.wide.fn 31 := trivial
  have hfS : Fence.wide.fn 30 := trivial
  refine callsIn_of_wp Try.func17 rfl trivial ?_ rfl
  simp only [Try.ntmps17, List.size_toArray, List.length_cons, List.length_nil, Nat.reduceAdd, Nat.reduceSub, Array.replicate_succ, Array.replicate_zero, List.push_toArray, List.append_toArray, List.nil_append, List.cons_append]
  gi_wp2_with (first
    | (gi_at_call 31; refine (Try.maps_Keys_31 _ _).mono ?_; rintro e w' ⟨rfl, rfl⟩)
    | (gi_at_call 30; refine (Try.slices_Sorted_keys_30_31 mb nn D0 RV w HO.out hmax hbytes).mono ?_; rintro e w' ⟨v, ss, rfl, hS, hrow, hnil, hb⟩))
  go_ret
  exact ⟨v, ss, rfl, hS, ownsRow_base_a hrow (by simp), ((Below.refl _ w).alloc (Nat.le_refl _) _).trans (hb.mono (by simp))⟩

set_option maxRecDepth 100000 in
set_option maxHeartbeats 1000000 in
theorem names_nil (pb : Nat) (w : World) (hc : w.cell? ⟨pb, 0, none⟩ = some (.map none)) :
    Calls Try.prog 17 #[.pointer (some ⟨pb, 0, none⟩)] w fun e w' => e = .returned (.slice none 0 0) ∧ Below w.heap.size w w' := by
  refine (callsIn_wide (n := 6)).1 ?_
  have hfK : Fence.wide.fn 31 := trivial
  have hfS : Fence.wide.fn 30 := trivial
  refine callsIn_of_wp Try.func17 rfl trivial ?_ rfl
  simp only [Try.ntmps17, List.size_toArray, List.length_cons, List.length_nil, Nat.reduceAdd, Nat.reduceSub, Array.replicate_succ, Array.replicate_zero, List.push_toArray, List.append_toArray, List.nil_append, List.cons_append]
  gi_wp2_with (first
    | (gi_at_call 31; refine (Try.maps_Keys_31 _ _).mono ?_; rintro e w' ⟨rfl, rfl⟩)
    | (gi_at_call 30; refine (Try.slices_Sorted_keys_nil_30_31 w).mono ?_; rintro e w' ⟨v, ss, rfl, hS, hrow, hnil, hb⟩))
  go_ret
  exact ⟨by rw [hnil.2 hS]; rfl, ((Below.refl _ w).alloc (Nat.le_refl _) _).trans (hb.mono (by simp))⟩

theorem names_any (pb N : Nat) (fp : Nat → Prop) (F : Tab) (w : World) (hd : Disk w pb fp N F) (hN : N < 1000000000) :
    Calls Try.prog 17 #[.pointer (some ⟨pb, 0, none⟩)] w fun e w' => ∃ (v : Value) (ks : List Key), e = .returned v ∧ NamesOf F ks ∧ ks.length ≤ N ∧ (∀ k ∈ ks, k.length ≤ maxLen) ∧ w'.ownsRow w.heap.size 9 1 v ks.length (ks.map encStr) ∧ Below w.heap.size w w' := by
  obtain ⟨V, hsz, hp, h⟩ := hd
  rcases h with ⟨h1, h2⟩ | ⟨mb, D, h1, hn, H⟩
  · refine (names_nil pb w (Disk.cell h1)).mono ?_
    rintro e w' ⟨rfl, hB⟩
    exact ⟨_, [], rfl, ⟨List.Pairwise.nil, List.nodup_nil, fun k => by simp [h2]⟩, Nat.zero_le _, by simp, World.ownsRow_nil _ _ _ _, hB⟩
  · refine (names_some pb mb _ D w (Disk.cell h1) H.map (by unfold maxLen; omega) (by omega)).mono ?_
    rintro e w' ⟨v, ss, rfl, hS, hrow, hB⟩
    obtain ⟨hno, hlen, hle⟩ := names_of_map (F := F) H.map H.no (fun k x hF => by obtain ⟨l, s⟩ := x; exact has_true_of_atKey (H.yes k l s hF)) hS
    refine ⟨v, _, rfl, hno, ?_, hle, ?_, hB⟩
    · rw [List.length_mergeSort, hlen]; exact hn
    · rw [List.length_mergeSort]; exact hrow

end Go.Proofs.Ytcmnjiichkcmgaa
