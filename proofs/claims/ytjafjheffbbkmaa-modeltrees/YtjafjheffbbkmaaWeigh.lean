/-
  A tree's weight: contracts.
-/
import Derived.Test.YtjafjheffbbkmaaCheck
namespace Go.Proofs.Ytjafjheffbbkmaa
open Go.RowKit
set_option linter.unusedVariables false



/-- Some number is told. -/
def Numb (w : World) (e : Ending) (w' : World) : Prop := ∃ x : Int, e = .returned (.int .i64 x) ∧ InR x ∧ Below w.heap.size w w'
theorem wrap64_in (x : Int) : InR (wrap64 x) := by
  unfold wrap64
  constructor <;> omega
theorem getD_memW {l : List Tr} {i : Nat} (h : i < l.length) : l.getD i zeroT ∈ l := by rw [List.getD_eq_getElem?_getD, List.getElem?_eq_getElem h]; exact List.getElem_mem h
def WeighOk (t : Tr) : Prop := ∀ (P : Nat → Prop) (v : Value) (w : World) (most deep : Int), InR most → InR deep → Tre w P v t → Calls Try.prog 34 #[v, .int .i64 most, .int .i64 deep] w (Numb w)
set_option maxRecDepth 100000 in
set_option maxHeartbeats 800000 in
theorem weigh_step (t : Tr) (ih : ∀ k ∈ t.kids, WeighOk k) : WeighOk t := by
  intro P v w most deep hm hd hT
  obtain ⟨a, cap, rfl, hcap, hk, hn, hnm, hlen, hkids⟩ := hT.opened
  have HK : Hid (∀ i, i < t.kids.length → ∃ b o ka kc, KidAt w P a i (t.kids.getD i zeroT) b o ka kc) := hkids
  have HI : Hid (∀ k ∈ t.kids, WeighOk k) := ih
  obtain ⟨m1, m2⟩ := hm
  obtain ⟨d1, d2⟩ := hd
  have hsz : (ba t.name).size ≤ 9223372036854775807 := hnm
  clear hkids ih hk hn hT hnm
  generalize t.kind = tk at *
  generalize t.n = tn at *
  generalize ba t.name = ts at *
  generalize t.kids = ks at *
  go_enter Try.func34, Try.ntmps34
  go_wp2_with fail
  go_loopw [7, 8] (fun n i wr => ∃ (x : Int) (j : Nat), n = .int .i64 x ∧ -9223372036854775808 ≤ x ∧ x ≤ 9223372036854775807 ∧ i = .int .i64 j ∧ j ≤ ks.length ∧ Hid (Below w.heap.size w wr ∧ Cell4 wr w.heap.size (.int .i64 tk) (.int .i64 tn) (.string ts) (.slice a ks.length cap))) (fun _ i _ => ks.length - (intOf i).toNat)
  case atStart => exact ⟨_, 0, rfl, by omega, by omega, rfl, Nat.zero_le _, (Below.refl _ _).alloc (Nat.le_refl _) _, Cell4.new _ _ _ _ _ 31⟩
  case round =>
    obtain ⟨x, j, rfl, hx1, hx2, rfl, hj, HR⟩ := hrel
    obtain ⟨q0, q1, q2, q3, q4⟩ := HR.out.2
    by_cases hlt : j < ks.length
    · by_cases hxm : x ≤ most
      · by_cases hd0 : deep = 0
        · subst hd0
          have HB3 : Hid (Below w.heap.size w wr) := HR.out.1
          clear HR
          go_wp2_with fail
          go_ret
          exact ⟨_, rfl, wrap64_in _, HB3.out⟩
        · obtain ⟨b, o, ka, kc, hKA⟩ := HK.out j hlt
          have HKA : Hid (KidAt wr P a j (ks.getD j zeroT) b o ka kc) := hKA.below HR.out.1
          obtain ⟨rfl, k0, k1, k2, k3, _⟩ := HKA.out
          have HC : Hid (∀ w (most deep : Int), InR most → InR deep → Tre w P (.agg #[.int .i64 (ks.getD j zeroT).kind, .int .i64 (ks.getD j zeroT).n, .string (ba (ks.getD j zeroT).name), .slice ka (ks.getD j zeroT).kids.length kc]) (ks.getD j zeroT) → Calls Try.prog 34 #[.agg #[.int .i64 (ks.getD j zeroT).kind, .int .i64 (ks.getD j zeroT).n, .string (ba (ks.getD j zeroT).name), .slice ka (ks.getD j zeroT).kids.length kc], .int .i64 most, .int .i64 deep] w (Numb w)) := fun w most deep h1 h2 h3 => HI.out _ (getD_memW hlt) P _ w most deep h1 h2 h3
          have HKT : Hid (Tre wr P (.agg #[.int .i64 (ks.getD j zeroT).kind, .int .i64 (ks.getD j zeroT).n, .string (ba (ks.getD j zeroT).name), .slice ka (ks.getD j zeroT).kids.length kc]) (ks.getD j zeroT)) := HKA.out.tre
          clear hKA HKA
          generalize (ks.getD j zeroT).kind = yk at *
          generalize (ks.getD j zeroT).n = yn at *
          generalize ba (ks.getD j zeroT).name = ys at *
          generalize (ks.getD j zeroT).kids.length = yl at *
          generalize ks.getD j zeroT = y at *
          go_wp2_with (go_at_call 34; have := HKT; refine (HC.out _ _ _ (wrap64_in _) (wrap64_in _) HKT.out).mono ?_; rintro e w3 ⟨z, rfl, hz, HB⟩; have HB3 : Hid (Below w.heap.size w w3 ∧ Cell4 w3 w.heap.size (.int .i64 tk) (.int .i64 tn) (.string ts) (.slice (some ⟨b, o, none⟩) ks.length cap)) := ⟨HR.out.1.trans (HB.mono HR.out.1.size), HR.out.2.below HB⟩; clear HB HKT)
          go_roundw
          case rel => exact ⟨_, j + 1, rfl, (wrap64_in _).1, (wrap64_in _).2, by go_num, by omega, HB3.out⟩
          case measure => simp [intOf]; omega
      · have HB3 : Hid (Below w.heap.size w wr) := HR.out.1
        clear HR
        go_wp2_with fail
        go_ret
        exact ⟨x, rfl, ⟨hx1, hx2⟩, HB3.out⟩
    · have HB3 : Hid (Below w.heap.size w wr) := HR.out.1
      clear HR
      go_wp2_with fail
      go_ret
      exact ⟨x, rfl, ⟨hx1, hx2⟩, HB3.out⟩
theorem weigh_any (t : Tr) : WeighOk t := Tr.ind weigh_step t
end Go.Proofs.Ytjafjheffbbkmaa
