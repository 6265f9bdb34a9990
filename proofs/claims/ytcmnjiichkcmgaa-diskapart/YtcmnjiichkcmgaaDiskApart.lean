/-
  Proved: what happens to one file touches no other one, but for a crash (4.6).
  The frame below the walk follows the guide's program (proof-skeleton), by hand for slices of acts; the walk is by hand.
-/
import Derived.Test.YtcmnjiichkcmgaaRows
import Derived.Test.YtcmnjiichkcmgaaTwo
import Derived.WalkKit
import Derived.ProofKit
import Derived.OpenShut
import Derived.ShutString
import Derived.ChangeOld
import Derived.Below
import Derived.SizedLaws
namespace Go.Proofs.Ytcmnjiichkcmgaa.diskApart
open Go.ChangeShapes Go.WideShapes Go.ChangeAt Go.RowKit Go.Maps Go.Sort
open Go.ChangeMaps (open_string shut_string)
set_option linter.unusedVariables false

theorem own : ownKnob Try.prog.godebug = none := by kernel_rfl
theorem laidOut : laidOutB Try.prog = true := by kernel_rfl



set_option maxRecDepth 100000 in
set_option maxHeartbeats 1000000 in
theorem walk (a0 : Option Addr) (len0 cap0 : Nat) (z0 : List Do) (a1 : ByteArray) (w : World) (w0 : DosV w a0 len0 z0) (w1 : a1.size ≤ maxLen) :
    Calls Try.prog 7 #[.slice a0 len0 cap0, .string a1] w fun e w' => e = .returned (.bool true) ∧ Below w.heap.size w w' := by
  have HW : Hid (∀ w', Below w.heap.size w w' → Calls Try.prog 9 #[] w' fun e w2 => e = .returned (.bool true) ∧ Below w.heap.size w w2) := fun w' hB => (works_any w').mono fun e w2 ⟨he, h⟩ => ⟨he, hB.trans (h.mono hB.size)⟩
  have HL : Hid (DosV w a0 len0 z0 ∧ a1.size ≤ maxLen) := ⟨w0, w1⟩
  clear w0 w1
  by_cases hli : light z0 = true
  case neg =>
    have hli' : light z0 = false := by simpa using hli
    clear hli
    go_enter Try.func7, Try.ntmps7
    go_wp2_with (first
      | (go_at_call 8; refine (light_any _ _ _ z0 _ HL.out.1).mono ?_; rintro e w1 ⟨rfl, hw⟩; have hw2 := hw.symm; clear hw; subst hw2)
      | (go_at_call 9; refine (HW.out _ (Below.refl _ _)).mono ?_; rintro e w2 ⟨rfl, hB⟩))
    go_ret
    exact ⟨rfl, hB⟩
  case pos =>
    have HG : Hid (Light z0) := light_of hli
    have hlen : len0 ≤ 60 := by have := HG.out.1; rw [HL.out.1.1] at this; exact this
    have hlen2 : z0.length = len0 := HL.out.1.1
    have HLen : Hid (z0.length = len0) := hlen2
    clear hlen2
    go_enter Try.func7, Try.ntmps7
    go_wp2_with (first
      | (go_at_call 8; refine (light_any _ _ _ z0 _ HL.out.1).mono ?_; rintro e w1 ⟨rfl, hw⟩; have hw2 := hw.symm; clear hw; subst hw2)
      | (go_at_call 10; have := H0; refine (Two.born H0.out).mono ?_; rintro e w2 ⟨qb, fq0, rfl, h1⟩; have H1 : Hid (Two w w2 pb qb fp0 fq0 0 none' none') := h1; clear h1 H0; have e2 := eqlP ⟨qb, 0, none⟩)
      | (go_at_call 10; refine (St.born (Below.refl _ _)).mono ?_; rintro e w2 ⟨pb, fp0, rfl, h0, -, -⟩; have H0 : Hid (St w w2 pb fp0 0 none') := h0; clear h0; have e1 := eqlP ⟨pb, 0, none⟩))
    go_loopw [7] (fun i wr => ∃ j : Nat, j ≤ len0 ∧ i = .int .i64 j ∧ Hid (∃ fp fq F G, Two w wr pb qb fp fq (2 * j) F G ∧ Fits F (sumTo z0 j) ∧ Fits G (sumTo z0 j) ∧ F (key a1) = G (key a1))) (fun i _ => len0 - (intOf i).toNat)
    case atStart => exact ⟨0, Nat.zero_le _, rfl, fp0, fq0, none', none', H1.out, fits_none, fits_none, rfl⟩
    case round =>
      obtain ⟨j, hj, rfl, HJ⟩ := hrel
      obtain ⟨fp, fq, F, G, h1, h2, h3, h4⟩ := HJ.out
      have H2 : Hid (Two w wr pb qb fp fq (2 * j) F G ∧ Fits F (sumTo z0 j) ∧ Fits G (sumTo z0 j) ∧ F (key a1) = G (key a1)) := ⟨h1, h2, h3, h4⟩
      clear h1 h2 h3 h4 HJ
      by_cases hlt : j < len0
      · have hin : j < z0.length := by rw [HLen.out]; exact hlt
        obtain ⟨hs1, hs2, hs3⟩ := sumTo_le HG.out hin
        rcases HL.out.1.2.2 with h0 | ⟨b, off, rfl, hat⟩
        · omega
        have hat := hat j hlt
        have hat2 := hat.below H2.out.1.l.2.1
        obtain ⟨c0, c1, c2, c3, wk, _, _, _, _⟩ := hat2
        have HO : Hid (DoAt w b (off + j * 4) (z0.getD j noDo) ∧ sumTo z0 j ≤ 3000 ∧ (z0.getD j noDo).b.length ≤ 3000 ∧ sumTo z0 (j + 1) = sumTo z0 j + (z0.getD j noDo).b.length) := ⟨hat, hs1, hs2, hs3⟩
        clear hat hs1 hs2 hs3 hin
        generalize z0.getD j noDo = o at *
        by_cases k3 : o.kind = 3
        · rw [k3] at c0
          go_wp2
          go_roundw
          case rel => exact ⟨j + 1, by omega, by go_num, fp, fq, F, G, H2.out.1.more (by omega), H2.out.2.1.mono (by have := HO.out.2.2.2; omega), H2.out.2.2.1.mono (by have := HO.out.2.2.2; omega), H2.out.2.2.2⟩
          case measure => simp [intOf]; omega
        · have e3 : (o.kind == 3) = false := by rw [beq_eq_false_iff_ne]; exact k3
          have HK3 : Hid (o.kind ≠ 3) := k3
          by_cases hnm : o.name = a1
          · subst hnm
            go_wp2_with (first
              | (go_at_call 11; have := H3; refine (Two.act H3.out.2.2.flip (by omega) H2.out.2.2.1 HO.out.2.1 HO.out.2.2.1 HO.out.1).mono ?_; rintro e w3 ⟨fq', G', y, rfl, ha, hf, ht⟩; have H4 : Hid (Acted G o G' y ∧ Fits G' (sumTo z0 j + o.b.length) ∧ Two w w3 qb pb fq' fp' (2 * j + 1 + 1) G' F') := ⟨ha, hf, ht⟩; clear ha hf ht)
              | (go_at_call 11; have := H2; refine (Two.act H2.out.1 (by omega) H2.out.2.1 HO.out.2.1 HO.out.2.2.1 HO.out.1).mono ?_; rintro e w2 ⟨fp', F', x, rfl, ha, hf, ht⟩; obtain ⟨d0, d1, d2, d3, _, _, _, _, _⟩ := HO.out.1.below ht.l.2.1; have H3 : Hid (Acted F o F' x ∧ Fits F' (sumTo z0 j + o.b.length) ∧ Two w w2 pb qb fp' fq (2 * j + 1) F' G) := ⟨ha, hf, ht⟩; clear ha hf ht))
            go_roundw
            case rel => exact ⟨j + 1, by omega, by go_num, fp', fq', F', G', H4.out.2.2.flip, by rw [HO.out.2.2.2]; exact H3.out.2.1, by rw [HO.out.2.2.2]; exact H4.out.2.1, acted_same H3.out.1 H4.out.1 HK3.out H2.out.2.2.2⟩
            case measure => simp [intOf]; omega
          · have e4 := name_ne hnm
            have HNE : Hid (key a1 ≠ key o.name) := key_ne' hnm
            go_wp2_with (first
              | (go_at_call 11; have := H2; refine (Two.act H2.out.1 (by omega) H2.out.2.1 HO.out.2.1 HO.out.2.2.1 HO.out.1).mono ?_; rintro e w2 ⟨fp', F', x, rfl, ha, hf, ht⟩; obtain ⟨d0, d1, d2, d3, _, _, _, _, _⟩ := HO.out.1.below ht.l.2.1; have H3 : Hid (Acted F o F' x ∧ Fits F' (sumTo z0 j + o.b.length) ∧ Two w w2 pb qb fp' fq (2 * j + 1) F' G) := ⟨ha, hf, ht⟩; clear ha hf ht))
            go_roundw
            case rel => exact ⟨j + 1, by omega, by go_num, fp', fq, F', G, H3.out.2.2.more (by omega), by rw [HO.out.2.2.2]; exact H3.out.2.1, H2.out.2.2.1.mono (by have := HO.out.2.2.2; omega), by rw [acted_other H3.out.1 HK3.out HNE.out]; exact H2.out.2.2.2⟩
            case measure => simp [intOf]; omega
      · have hjn : j = len0 := by omega
        have hlt' : ¬ (j : Int) < (len0 : Int) := by omega
        have HM : Hid (sumTo z0 j ≤ 3000) := by show _ ≤ _; rw [hjn, ← HLen.out]; exact sumTo_end HG.out
        have hEb : bytesOf F (key a1) = bytesOf G (key a1) := by unfold bytesOf; rw [H2.out.2.2.2]
        have hEs : syncOf F (key a1) = syncOf G (key a1) := by unfold syncOf; rw [H2.out.2.2.2]
        have HE : Hid (bytesOf F (key a1) = bytesOf G (key a1) ∧ syncOf F (key a1) = syncOf G (key a1)) := ⟨hEb, hEs⟩
        clear hjn hlt hEb hEs
        go_wp2_with (first
          | (go_at_call 9; refine (HW.out _ H6.out).mono ?_; rintro e wz ⟨rfl, hB⟩)
          | (go_at_call 18; have := H5; refine (St.loose (s := a1) H5.out.r HL.out.2 H2.out.2.2.1 (by have := HM.out; omega)).mono ?_; rintro e w6 ⟨rfl, h6⟩; have H6 : Hid (Below w.heap.size w w6) := h6.2.1; clear h6)
          | (go_at_call 18; have := HS; refine (loose_any pb _ _ _ F a1 _ HS.out.l.1 HL.out.2 H2.out.2.1 (by have := HM.out; omega)).mono ?_; rw [HE.out.1, HE.out.2]; rintro e w5 ⟨rfl, h5⟩; have H5 : Hid (Two w w5 pb qb fp fq (2 * j) F G) := HS.out.kept (below_turned h5); clear h5)
          | (go_at_call 14; have := HR2; refine (same_yes _ _ (bytesOf G (key a1)) _ HR2.out.2.1 HR2.out.2.2).mono ?_; rintro e w4 ⟨rfl, hw⟩; have HS : Hid (Two w w4 pb qb fp fq (2 * j) F G) := (show Two w w4 pb qb fp fq (2 * j) F G by rw [hw]; exact HR2.out.1); clear hw HR2)
          | (go_at_call 15; have := HR1; refine (read_any qb _ _ _ G a1 _ HR1.out.1.r.1 HL.out.2 H2.out.2.2.1 (by have := HM.out; omega)).mono ?_; rintro e w3 ⟨v2, rfl, ho, hB⟩; have HR2 : Hid (Two w w3 pb qb fp fq (2 * j) F G ∧ ReadsV w3 v1 (bytesOf G (key a1)) ∧ ReadsV w3 v2 (bytesOf G (key a1))) := ⟨HR1.out.1.kept (below_turned hB), HR1.out.2.below hB, ReadsV.of_own ho⟩; clear ho hB HR1)
          | (go_at_call 15; have := H2; refine (read_any pb _ _ _ F a1 _ H2.out.1.l.1 HL.out.2 H2.out.2.1 (by have := HM.out; omega)).mono ?_; rw [HE.out.1]; rintro e w2 ⟨v1, rfl, ho, hB⟩; have HR1 : Hid (Two w w2 pb qb fp fq (2 * j) F G ∧ ReadsV w2 v1 (bytesOf G (key a1))) := ⟨H2.out.1.kept (below_turned hB), ReadsV.of_own ho⟩; clear ho hB))
        go_ret
        exact ⟨rfl, hB⟩

set_option maxRecDepth 100000 in
theorem lifted (os : Os) (started : os.Started) (H : Type) (enc : TypeId × Value → H) :
    ReturnsInHanded {} Try.checked os 7 .any (Rows.diskApartSpec.pre6 enc Try.prog Try.f7 Rows.diskApartRow.domain false) (Rows.diskApartSpec.post enc Try.prog Try.f7 false true false false) := by
  refine returnsInHanded_of_change_sized (C := Try.checked) own started (by kernel_rfl) Try.func7
    (ChangeSpec.witness6 (enc := enc) (C := Try.checked) false ⟨#[], #[.slice none 0 0, .string ByteArray.empty], []⟩ 8 (by kernel_rfl) (by kernel_rfl) (by kernel_rfl) (by kernel_rfl)) ?_
  intro W base args ds gs before hval0 hW hcnd hsz0 _
  have hval : ∀ (j : Nat) t v, Try.f7.params[j]? = some t → args[j]? = some v → Value.okWide Try.prog W .any base t v := hval0
  have hsz : (DataW.weightsEach Try.prog (Try.f7.params.toList ++ Rows.diskApartSpec.plain.varTypes Try.prog) (ds ++ gs)).all (· ≤ reachBytes) = true := hsz0
  have hW' := hW
  obtain ⟨p, q, hA0, hV, rfl, hfz, hnd⟩ := hW
  have hA : DataW.TrodAll enc Try.prog W 0 (fun _ => true) true Try.f7.params.toList args.toList ds p := hA0
  rw [Try.params7] at hA hval hsz
  obtain ⟨v0, vs0, d0, ds0, p0, q0, hargs, rfl, rfl, h0, r0⟩ := trodAll_cons hA
  obtain ⟨v1, vs1, d1, ds1, p1, q1, rfl, rfl, rfl, h1, r1⟩ := trodAll_cons r0
  obtain ⟨rfl, rfl, rfl⟩ := trodAll_nil r1
  obtain rfl : args = #[v0, v1] := by cases args; simp_all
  obtain ⟨rfl, rfl⟩ := trodVars_none hV
  obtain ⟨a0, len0, cap0, rfl⟩ := okWide_slice Try.underlying22 (hval 0 22 v0 rfl rfl)
  have k0 := h0
  have lt0 : ∀ x ∈ p0, x.block < W.heap.size := by obtain ⟨m, hm⟩ := k0; exact DataW.trod_lt m _ _ _ hm
  obtain ⟨z0, w0⟩ : ∃ os, DosV W a0 len0 os := by
    obtain ⟨fuel, hf⟩ := h0
    exact dos_of_trod (by simpa [Value.cells] using hf) (List.all_eq_true.2 (fun n hn => List.all_eq_true.1 hsz n (DataW.weights_mem_each (j := 0) rfl rfl n hn)))
  obtain ⟨a1, rfl, rfl, rfl, w1⟩ := open_string Try.underlying9 (hval 1 9 v1 rfl rfl) h1
  clear hA0 hval0 hsz hsz0
  refine (walk a0 len0 cap0 z0 a1 W w0 w1).mono fun e W' ⟨he, bel⟩ => ?_
  subst he
  exact ⟨_, rfl, _, _, _, [], _, [], hW', trodAll_mk1 (shut_bool Try.underlying4 _), (trodAll_cons_mk (Below.trod laidOut (by kernel_rfl) (of_decide_eq_true (by kernel_rfl)) k0 bel lt0) (trodAll_cons_mk (shut_string Try.underlying9 w1) trodAll_mk0)), rfl, bel.frame _, fun h => by cases h⟩

theorem over : Rows.diskApartRow.holds Try.pinned (OpenSpec.ofChange Rows.diskApartSpec) :=
  OpenClaim.holds_of_wide 7 Try.f7 rfl rfl rfl rfl rfl rfl rfl ⟨rfl, rfl, rfl, rfl, rfl⟩ rfl rfl rfl rfl rfl (by kernel_rfl) Try.func7 (by kernel_rfl)
    (of_decide_eq_true (by kernel_rfl)) (by unfold Func.isWrapper; first | (rw [if_pos (by decide +kernel)]; kernel_rfl) | (rw [if_neg (by decide +kernel)]; exact ⟨rfl, rfl⟩))
    (fun os started H enc _ => lifted os started H enc)

/-- ████ THE STATEMENT ████ -/
theorem proved : Rows.DiskApartSaid := over
#print axioms proved
end Go.Proofs.Ytcmnjiichkcmgaa.diskApart
