/-
  Proved: whatever is written, synced, replaced and lost, each act is answered as the chapter says, and all files are what it says (4.1 to 4.5).
  The frame below the walk follows the guide's program (proof-skeleton), by hand for slices of acts; the walk is by hand.
-/
import Derived.Test.YtcmnjiichkcmgaaRows
import Derived.Test.YtcmnjiichkcmgaaAlike
import Derived.WalkKit
import Derived.ProofKit
import Derived.OpenShut
import Derived.ShutString
import Derived.ChangeOld
import Derived.Below
import Derived.SizedLaws
namespace Go.Proofs.Ytcmnjiichkcmgaa.diskDoes
open Go.ChangeShapes Go.WideShapes Go.ChangeAt Go.RowKit Go.Maps Go.Sort
open Go.ChangeMaps (open_string shut_string)
set_option linter.unusedVariables false

theorem own : ownKnob Try.prog.godebug = none := by kernel_rfl
theorem laidOut : laidOutB Try.prog = true := by kernel_rfl


set_option maxRecDepth 100000 in
set_option maxHeartbeats 1000000 in
theorem walk (a0 : Option Addr) (len0 cap0 : Nat) (z0 : List Do) (a1 : ByteArray) (w : World) (w0 : DosV w a0 len0 z0) (w1 : a1.size ≤ maxLen) :
    Calls Try.prog 3 #[.slice a0 len0 cap0, .string a1] w fun e w' => e = .returned (.bool true) ∧ Below w.heap.size w w' := by
  have HW : Hid (∀ w', Below w.heap.size w w' → Calls Try.prog 9 #[] w' fun e w2 => e = .returned (.bool true) ∧ Below w.heap.size w w2) := fun w' hB => (works_any w').mono fun e w2 ⟨he, h⟩ => ⟨he, hB.trans (h.mono hB.size)⟩
  have HL : Hid (DosV w a0 len0 z0 ∧ a1.size ≤ maxLen) := ⟨w0, w1⟩
  clear w0 w1
  by_cases hli : light z0 = true
  case neg =>
    have hli' : light z0 = false := by simpa using hli
    clear hli
    go_enter Try.func3, Try.ntmps3
    go_wp2_with (first
      | (go_at_call 8; refine (light_any _ _ _ z0 _ HL.out.1).mono ?_; rintro e w1 ⟨rfl, hw⟩; have hw2 := hw.symm; clear hw; subst hw2)
      | (go_at_call 9; refine (HW.out _ (Below.refl _ _)).mono ?_; rintro e w2 ⟨rfl, hB⟩))
    go_ret
    exact ⟨rfl, hB⟩
  case pos =>
    have HG : Hid (Light z0) := light_of hli
    have hlen : len0 ≤ 60 := by have := HG.out.1; rw [HL.out.1.1] at this; exact this
    have HLen : Hid (z0.length = len0) := HL.out.1.1
    go_enter Try.func3, Try.ntmps3
    go_wp2_with (first
      | (go_at_call 8; refine (light_any _ _ _ z0 _ HL.out.1).mono ?_; rintro e w1 ⟨rfl, hw⟩; have hw2 := hw.symm; clear hw; subst hw2)
      | (go_at_call 10; refine (St.born (Below.refl _ _)).mono ?_; rintro e w2 ⟨pb, fp0, rfl, h0, -, -⟩; have H0 : Hid (St w w2 pb fp0 0 none') := h0; clear h0; have e1 := eqlP ⟨pb, 0, none⟩))
    go_loopw [6, 7] (fun r i wr => ∃ j : Nat, j ≤ len0 ∧ i = .int .i64 j ∧ Hid (∃ fp F fs, St w wr pb fp j F ∧ Fits F (sumTo z0 j) ∧ FilesV fp wr r fs ∧ Rel fs F ∧ fs.length ≤ j)) (fun _ i _ => len0 - (intOf i).toNat)
    case atStart => exact ⟨0, Nat.zero_le _, rfl, fp0, none', [], H0.out, fits_none, FilesV.nil _, Rel.start, Nat.zero_le _⟩
    case round =>
      obtain ⟨j, hj, rfl, HJ⟩ := hrel
      obtain ⟨fp, F, fs, h1, h2, h3, h4, h5⟩ := HJ.out
      have H2 : Hid (St w wr pb fp j F ∧ Fits F (sumTo z0 j) ∧ FilesV fp wr u6 fs ∧ Rel fs F ∧ fs.length ≤ j) := ⟨h1, h2, h3, h4, h5⟩
      clear h1 h2 h3 h4 h5 HJ
      by_cases hlt : j < len0
      · have hin : j < z0.length := by rw [HLen.out]; exact hlt
        obtain ⟨hs1, hs2, hs3⟩ := sumTo_le HG.out hin
        rcases HL.out.1.2.2 with h0 | ⟨b, off, rfl, hat⟩
        · omega
        have hat := hat j hlt
        have HX : Hid (∀ w2, Below w.heap.size w w2 → DoAt w2 b (off + j * 4) (z0.getD j noDo)) := fun w2 hB => hat.below hB
        obtain ⟨c0, c1, c2, c3, wk, wn, rb, rk, _⟩ := HX.out _ H2.out.1.2.1
        have HDo : Hid (Calls Try.prog 11 #[.pointer (some ⟨pb, 0, none⟩), .agg #[.int .i64 (z0.getD j noDo).kind, .string (z0.getD j noDo).name, (z0.getD j noDo).vb, (z0.getD j noDo).vk]] wr fun e w' => ∃ fp2 F', e = .returned (.int .i64 (stepL fs (z0.getD j noDo)).2) ∧ St w w' pb fp2 (j + 1) F' ∧ Fits F' 6000 ∧ Fits F' (sumTo z0 (j + 1)) ∧ FilesV fp2 w' u6 fs ∧ Rel (stepL fs (z0.getD j noDo)).1 F') :=
          (St.act H2.out.1 (by omega) H2.out.2.1 hs1 hs2 hat).mono fun e w' ⟨F', x, he, ha, hf, hd⟩ => by
            obtain ⟨hr, hx⟩ := H2.out.2.2.2.1.act ha
            subst hx
            exact ⟨_, F', he, H2.out.1.did hd, hf.mono (by omega), by rw [hs3]; exact hf, H2.out.2.2.1.kept hd.1, hr⟩
        have HSt : Hid (∀ w2 fp2 F', St w w2 pb fp2 (j + 1) F' → FilesV fp2 w2 u6 fs → Calls Try.prog 12 #[u6, .agg #[.int .i64 (z0.getD j noDo).kind, .string (z0.getD j noDo).name, (z0.getD j noDo).vb, (z0.getD j noDo).vk]] w2 fun e w' => ∃ v', e = .returned (.tuple #[v', .int .i64 (stepL fs (z0.getD j noDo)).2]) ∧ FilesV fp2 w' v' (stepL fs (z0.getD j noDo)).1 ∧ St w w' pb fp2 (j + 1) F') := fun w2 fp2 F' hS hF => by
          have hd2 := HX.out _ hS.2.1
          have h5 := H2.out.2.2.2.2
          exact (step_any u6 fs _ w2 hF (by omega) hd2.rb hs2 wn hd2.rk (fun i hi => by have := H2.out.2.2.2.1.fits H2.out.2.1 hi; omega) (fun g hg => hS.1.lt hg)).mono fun e w' ⟨v', he, h1, h2⟩ => ⟨v', he, h1, hS.kept (below_turned h2)⟩
        have HAl : Hid (∀ w2 fp2 F' v, St w w2 pb fp2 (j + 1) F' → Fits F' 6000 → FilesV fp2 w2 v (stepL fs (z0.getD j noDo)).1 → Rel (stepL fs (z0.getD j noDo)).1 F' → Calls Try.prog 13 #[.pointer (some ⟨pb, 0, none⟩), v] w2 fun e w' => e = .returned (.bool true) ∧ (stepL fs (z0.getD j noDo)).1.length ≤ j + 1 ∧ St w w' pb fp2 (j + 1) F' ∧ FilesV fp2 w' v (stepL fs (z0.getD j noDo)).1) := fun w2 fp2 F' v hS hf hF hR =>
          (alike_any pb _ _ F' v _ w2 hS.1 (by omega) hf (by decide) hF hR).mono fun e w' ⟨he, hl, hB⟩ => ⟨he, hl, hS.kept (below_turned hB), hF.below hB⟩
        have HXc : Hid (∀ w2 fp2 F', St w w2 pb fp2 (j + 1) F' → w2.cell? ⟨b, off + j * 4, none⟩ = some (.int .i64 (z0.getD j noDo).kind) ∧ w2.cell? ⟨b, off + j * 4 + 1, none⟩ = some (.string (z0.getD j noDo).name) ∧ w2.cell? ⟨b, off + j * 4 + 2, none⟩ = some (z0.getD j noDo).vb ∧ w2.cell? ⟨b, off + j * 4 + 3, none⟩ = some (z0.getD j noDo).vk) := fun w2 fp2 F' hS => by
          have hd2 := HX.out _ hS.2.1
          exact ⟨hd2.c0, hd2.c1, hd2.c2, hd2.c3⟩
        clear hat hs1 hs2 hs3 hin HX wn rb rk
        generalize (stepL fs (z0.getD j noDo)).1 = gs at *
        generalize (stepL fs (z0.getD j noDo)).2 = x at *
        generalize z0.getD j noDo = o at *
        go_wp2_with (first
          | (go_at_call 13; have := H4; refine (HAl.out _ _ _ _ H4.out.1 H4.out.2.1 H4.out.2.2.2.1 H4.out.2.2.2.2).mono ?_; rintro e w4 ⟨rfl, hl, hS, hF⟩; have H5 : Hid (St w w4 pb fp2 (j + 1) F' ∧ Fits F' (sumTo z0 (j + 1)) ∧ FilesV fp2 w4 v2 gs ∧ Rel gs F' ∧ gs.length ≤ j + 1) := ⟨hS, H4.out.2.2.1, hF, H4.out.2.2.2.2, hl⟩; clear hl hS hF H4)
          | (go_at_call 12; have := H3; refine (HSt.out _ _ _ H3.out.1 H3.out.2.2.2.1).mono ?_; rintro e w3 ⟨v2, rfl, hF, hS⟩; have H4 : Hid (St w w3 pb fp2 (j + 1) F' ∧ Fits F' 6000 ∧ Fits F' (sumTo z0 (j + 1)) ∧ FilesV fp2 w3 v2 gs ∧ Rel gs F') := ⟨hS, H3.out.2.1, H3.out.2.2.1, hF, H3.out.2.2.2.2⟩; clear hF hS H3)
          | (go_at_call 11; refine HDo.out.mono ?_; rintro e w2 ⟨fp2, F', rfl, h1, h2, h3, h4, h5⟩; have H3 : Hid (St w w2 pb fp2 (j + 1) F' ∧ Fits F' 6000 ∧ Fits F' (sumTo z0 (j + 1)) ∧ FilesV fp2 w2 u6 fs ∧ Rel gs F') := ⟨h1, h2, h3, h4, h5⟩; obtain ⟨d0, d1, d2, d3⟩ := HXc.out _ _ _ h1; clear h1 h2 h3 h4 h5 HDo))
        go_roundw
        case rel => exact ⟨j + 1, by omega, by go_num, fp2, F', gs, H5.out⟩
        case measure => simp [intOf]; omega
      · have hjn : j = len0 := by omega
        have hlt' : ¬ (j : Int) < (len0 : Int) := by omega
        have HF : Hid (Fits F 3000) := H2.out.2.1.mono (by rw [hjn, ← HLen.out]; exact sumTo_end HG.out)
        have HRd : Hid (Calls Try.prog 15 #[.pointer (some ⟨pb, 0, none⟩), .string a1] wr fun e w' => ∃ v', e = .returned v' ∧ ReadsV w' v' (bytesOf F (key a1)) ∧ Below wr.heap.size wr w') :=
          (read_any pb _ _ _ F a1 wr H2.out.1.1 HL.out.2 HF.out (by decide)).mono fun e w' ⟨v', he, ho, hB⟩ => ⟨v', he, ReadsV.of_own ho, hB⟩
        have HRr : Hid (∀ w2, Below wr.heap.size wr w2 → Calls Try.prog 16 #[u6, .string a1] w2 fun e w' => ∃ v', e = .returned v' ∧ ReadsV w' v' (bytesOf F (key a1)) ∧ Below w2.heap.size w2 w') := fun w2 hB => by
          have h5 := H2.out.2.2.2.2
          have := rread_any u6 fs a1 w2 (H2.out.2.2.1.below hB) (by omega) (fun i hi => by have := H2.out.2.2.2.1.fits HF.out hi; omega)
          rw [H2.out.2.2.2.1.bytes] at this
          exact this
        have HB0 : Hid (Below w.heap.size w wr) := H2.out.1.2.1
        clear hjn hlt H2
        generalize bytesOf F (key a1) = bb at *
        go_wp2_with (first
          | (go_at_call 9; have := HQ3; refine (HW.out _ HQ3.out).mono ?_; rintro e wz ⟨rfl, hB⟩)
          | (go_at_call 14; have := HQ2; refine (same_yes _ _ bb _ HQ2.out.1 HQ2.out.2.1).mono ?_; rintro e w4 ⟨rfl, hw⟩; have HQ3 : Hid (Below w.heap.size w w4) := (show Below w.heap.size w w4 by rw [hw]; exact HQ2.out.2.2); clear hw HQ2)
          | (go_at_call 16; have := HQ1; refine (HRr.out _ HQ1.out.2).mono ?_; rintro e w3 ⟨v2, rfl, hr, hB⟩; have HQ2 : Hid (ReadsV w3 v1 bb ∧ ReadsV w3 v2 bb ∧ Below w.heap.size w w3) := ⟨HQ1.out.1.below hB, hr, (HB0.out.trans (HQ1.out.2.mono HB0.out.size)).trans (hB.mono (HB0.out.trans (HQ1.out.2.mono HB0.out.size)).size)⟩; clear hr hB HQ1)
          | (go_at_call 15; have := HRd; refine HRd.out.mono ?_; rintro e w2 ⟨v1, rfl, hr, hB⟩; have HQ1 : Hid (ReadsV w2 v1 bb ∧ Below wr.heap.size wr w2) := ⟨hr, hB⟩; clear hr hB HRd))
        go_ret
        exact ⟨rfl, hB⟩

set_option maxRecDepth 100000 in
theorem lifted (os : Os) (started : os.Started) (H : Type) (enc : TypeId × Value → H) :
    ReturnsInHanded {} Try.checked os 3 .any (Rows.diskDoesSpec.pre6 enc Try.prog Try.f3 Rows.diskDoesRow.domain false) (Rows.diskDoesSpec.post enc Try.prog Try.f3 false true false false) := by
  refine returnsInHanded_of_change_sized (C := Try.checked) own started (by kernel_rfl) Try.func3
    (ChangeSpec.witness6 (enc := enc) (C := Try.checked) false ⟨#[], #[.slice none 0 0, .string ByteArray.empty], []⟩ 8 (by kernel_rfl) (by kernel_rfl) (by kernel_rfl) (by kernel_rfl)) ?_
  intro W base args ds gs before hval0 hW hcnd hsz0 _
  have hval : ∀ (j : Nat) t v, Try.f3.params[j]? = some t → args[j]? = some v → Value.okWide Try.prog W .any base t v := hval0
  have hsz : (DataW.weightsEach Try.prog (Try.f3.params.toList ++ Rows.diskDoesSpec.plain.varTypes Try.prog) (ds ++ gs)).all (· ≤ reachBytes) = true := hsz0
  have hW' := hW
  obtain ⟨p, q, hA0, hV, rfl, hfz, hnd⟩ := hW
  have hA : DataW.TrodAll enc Try.prog W 0 (fun _ => true) true Try.f3.params.toList args.toList ds p := hA0
  rw [Try.params3] at hA hval hsz
  obtain ⟨v0, vs0, d0, ds0, p0, q0, hargs, rfl, rfl, h0, r0⟩ := trodAll_cons hA
  obtain ⟨v1, vs1, d1, ds1, p1, q1, rfl, rfl, rfl, h1, r1⟩ := trodAll_cons r0
  obtain ⟨rfl, rfl, rfl⟩ := trodAll_nil r1
  obtain rfl : args = #[v0, v1] := by cases args; simp_all
  obtain ⟨rfl, rfl⟩ := trodVars_none hV
  obtain ⟨a0, len0, cap0, rfl⟩ := okWide_slice Try.underlying22 (hval 0 22 v0 rfl rfl)
  have k0 := h0
  have lt0 : ∀ x ∈ p0, x.block < W.heap.size := by obtain ⟨m, hm⟩ := k0; exact DataW.trod_lt m _ _ _ hm
  obtain ⟨z0, w0⟩ : ∃ os, DosV W a0 len0 os := by
    obtain ⟨fuel, hf⟩ := h0
    exact dos_of_trod (by simpa [Value.cells] using hf) (List.all_eq_true.2 (fun n hn => List.all_eq_true.1 hsz n (DataW.weights_mem_each (j := 0) rfl rfl n hn)))
  obtain ⟨a1, rfl, rfl, rfl, w1⟩ := open_string Try.underlying9 (hval 1 9 v1 rfl rfl) h1
  clear hA0 hval0 hsz hsz0
  refine (walk a0 len0 cap0 z0 a1 W w0 w1).mono fun e W' ⟨he, bel⟩ => ?_
  subst he
  exact ⟨_, rfl, _, _, _, [], _, [], hW', trodAll_mk1 (shut_bool Try.underlying4 _), (trodAll_cons_mk (Below.trod laidOut (by kernel_rfl) (of_decide_eq_true (by kernel_rfl)) k0 bel lt0) (trodAll_cons_mk (shut_string Try.underlying9 w1) trodAll_mk0)), rfl, bel.frame _, fun h => by cases h⟩

theorem over : Rows.diskDoesRow.holds Try.pinned (OpenSpec.ofChange Rows.diskDoesSpec) :=
  OpenClaim.holds_of_wide 3 Try.f3 rfl rfl rfl rfl rfl rfl rfl ⟨rfl, rfl, rfl, rfl, rfl⟩ rfl rfl rfl rfl rfl (by kernel_rfl) Try.func3 (by kernel_rfl)
    (of_decide_eq_true (by kernel_rfl)) (by unfold Func.isWrapper; first | (rw [if_pos (by decide +kernel)]; kernel_rfl) | (rw [if_neg (by decide +kernel)]; exact ⟨rfl, rfl⟩))
    (fun os started H enc _ => lifted os started H enc)

/-- ████ THE STATEMENT ████ -/
theorem proved : Rows.DiskDoesSaid := over
#print axioms proved
end Go.Proofs.Ytcmnjiichkcmgaa.diskDoes
