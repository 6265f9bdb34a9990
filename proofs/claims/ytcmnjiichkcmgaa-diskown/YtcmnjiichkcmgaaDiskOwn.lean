/-
  Proved: what is written and what is told is the caller's own (4.6).
  The frame below the walk was written by the guide's program (proof-skeleton); the walk is by hand.
-/
import Derived.Test.YtcmnjiichkcmgaaRows
import Derived.Test.YtcmnjiichkcmgaaWorks
import Derived.WalkKit
import Derived.ProofKit
import Derived.OpenShut
import Derived.ShutString
import Derived.ChangeOld
import Derived.Below
namespace Go.Proofs.Ytcmnjiichkcmgaa.diskOwn
open Go.ChangeShapes Go.WideShapes Go.ChangeAt Go.RowKit 
open Go.ChangeMaps (open_string shut_string)
set_option linter.unusedVariables false

theorem own : ownKnob Try.prog.godebug = none := by kernel_rfl
theorem laidOut : laidOutB Try.prog = true := by kernel_rfl

theorem own_set {w : World} {base g n c : Nat} {l : List (BitVec 8)} {j : Nat} {z : Int} (h : Owns w base (.slice (some ⟨g, 0, none⟩) n c) l) (hn : l.length = n) (h0 : 0 ≤ z) (h1 : z ≤ 255) :
    ∃ l', l'.length = n ∧ Owns (w.setCell ⟨g, j, none⟩ (.int .u8 z)) base (.slice (some ⟨g, 0, none⟩) n c) l' := by
  refine ⟨l.set j (BitVec.ofNat 8 z.toNat), by simp [hn], ?_⟩
  subst hn
  have := (World.ownsRow.stored h j (.int .u8 z)).1
  have e : (bytesV l).set j (.int .u8 z) = bytesV (l.set j (BitVec.ofNat 8 z.toNat)) := by
    unfold bytesV
    rw [List.map_set]
    congr 2
    unfold B
    rw [BitVec.toNat_ofNat]
    omega
  rw [e] at this
  unfold Owns
  rw [List.length_set]
  exact this
theorem own_at {w : World} {base g n c : Nat} {l : List (BitVec 8)} {j : Nat} (h : Owns w base (.slice (some ⟨g, 0, none⟩) n c) l) (hn : l.length = n) (hj : j < n) : ∃ z : Int, w.cell? ⟨g, j, none⟩ = some (.int .u8 z) ∧ 0 ≤ z ∧ z ≤ 255 ∧ w.frozen? ⟨g, j, none⟩ = false := by
  subst hn
  refine ⟨B (nth l j), ?_, (B_range _).1, (B_range _).2, World.ownsRow.frozenAt h j⟩
  rw [World.ownsRow.cellAt h j (by omega), bytesV_at hj]
theorem own_form {w : World} {base : Nat} {v : Value} {l : List (BitVec 8)} (h : Owns w base v l) : ∃ a c, v = .slice a l.length c ∧ (a = none → l = []) ∧ ∀ x, a = some x → ∃ g, x = ⟨g, 0, none⟩ ∧ base ≤ g ∧ g < w.heap.size := by
  have hl := World.ownsRow.lt h
  rcases h.2 with ⟨rfl, h0⟩ | ⟨g, cap, cur, rfl, hb, _⟩
  · have := List.length_eq_zero_iff.1 h0
    subst this
    exact ⟨none, 0, rfl, fun _ => rfl, fun x h => by cases h⟩
  · exact ⟨_, cap, rfl, (fun h => by cases h), fun x h => by cases h; exact ⟨g, rfl, hb, (hl g rfl).2⟩⟩
theorem St.kept2 {w0 w w' : World} {pb N : Nat} {fp tu : Nat → Prop} {F : Tab} (h : St w0 w pb fp N F) (ht : Turned tu w w') (hd : ∀ i, fp i → ¬ tu i) (hb : ∀ i, tu i → w0.heap.size ≤ i) : St w0 w' pb fp N F :=
  ⟨h.1.kept ht hd, h.2.1.trans (ht.below h.2.1.size hb), h.2.2⟩
theorem neqP (a : Addr) (w : World) : (binOp .neq 25 (.pointer (some a)) (.pointer none)).run Try.prog w = .ok (.bool true) w := by kernel_rfl
theorem names_none {ks : List Key} (h : NamesOf none' ks) : ks = [] := by
  cases ks with
  | nil => rfl
  | cons k r => have := (h.mem k).1 (by simp); simp [none'] at this

theorem St.app2 {w0 w : World} {pb N M : Nat} {fp : Nat → Prop} {F : Tab} {s : ByteArray} {v : Value} {b : List (BitVec 8)} (h : St w0 w pb fp N F) (hs : s.size ≤ maxLen) (hN : N < 100000) (hf : Fits F M) (hM : M ≤ 50000000000000) (hr : ReadsV w v b) (hl : b.length ≤ 50000000000000) (hn : nm s = true) :
    Calls Try.prog 20 #[.pointer (some ⟨pb, 0, none⟩), .string s, v] w fun e w' => e = .returned (.int .i64 0) ∧ ∃ fp', St w0 w' pb fp' (N + 1) (appF F (key s) b) ∧ (∀ i, fp' i → fp i ∨ w.heap.size ≤ i) ∧ Turned fp w w' :=
  (append_yes pb N M fp F s v b w h.1 hs (by omega) hf hM hr hl hn).mono fun e w' ⟨he, hd⟩ => ⟨he, _, (h.did hd).more (more_le _ _ _), fun i hi => hi.imp id (·.1), hd.1⟩
/-- A row of the caller's own beside a disk. -/
def Beside (w0 w : World) (pb : Nat) (fp : Nat → Prop) (N : Nat) (F : Tab) (a : Option Addr) (n c : Nat) : Prop :=
  St w0 w pb fp N F ∧ ∃ li, li.length = n ∧ Owns w 0 (.slice a n c) li ∧ (∀ g, a = some ⟨g, 0, none⟩ → ¬ fp g ∧ w0.heap.size ≤ g) ∧ (0 < n → ∃ g, a = some ⟨g, 0, none⟩)
theorem Beside.mk {w0 w : World} {pb N b2 : Nat} {fp : Nat → Prop} {F : Tab} {a : Option Addr} {c : Nat} {l : List (BitVec 8)} (h : St w0 w pb fp N F) (ho : Owns w b2 (.slice a l.length c) l) (hb : ∀ g, b2 ≤ g → g < w.heap.size → a = some ⟨g, 0, none⟩ → ¬ fp g ∧ w0.heap.size ≤ g) : Beside w0 w pb fp N F a l.length c := by
  obtain ⟨a', c', e, h1, h2⟩ := own_form ho
  simp only [Value.slice.injEq] at e
  obtain ⟨rfl, -, rfl⟩ := e
  refine ⟨h, l, rfl, owns_rebase ho (fun _ _ => Nat.zero_le _), fun g hg => ?_, fun hp => ?_⟩
  · obtain ⟨g', e, hg', hg2⟩ := h2 _ hg
    simp only [Addr.mk.injEq, and_true] at e
    subst e
    exact hb g hg' hg2 hg
  · cases a with
    | none => have := h1 rfl; subst this; simp at hp
    | some x => obtain ⟨g, e, _⟩ := h2 x rfl; exact ⟨g, by rw [e]⟩
theorem Beside.set {w0 w : World} {pb N g n c j : Nat} {fp : Nat → Prop} {F : Tab} {z : Int} (h : Beside w0 w pb fp N F (some ⟨g, 0, none⟩) n c) (h0 : 0 ≤ z) (h1 : z ≤ 255) : Beside w0 (w.setCell ⟨g, j, none⟩ (.int .u8 z)) pb fp N F (some ⟨g, 0, none⟩) n c := by
  obtain ⟨hs, li, hl, ho, hg, hp⟩ := h
  obtain ⟨l', hl', ho'⟩ := own_set (j := j) ho hl h0 h1
  refine ⟨St.kept2 hs (setCell_turned _ _ _) (fun i hi e => ?_) (fun i e => ?_), l', hl', ho', hg, hp⟩
  · have e' : i = g := e
    subst e'
    exact (hg i rfl).1 hi
  · have e' : i = g := e
    subst e'
    exact (hg i rfl).2
theorem beside_app {w0 w2 w3 : World} {pb N N0 b1 : Nat} {fp0 fp1 : Nat → Prop} {F0 F : Tab} {a : Option Addr} {c : Nat} {l : List (BitVec 8)} (h1 : St w0 w2 pb fp0 N0 F0) (ho : Owns w2 b1 (.slice a l.length c) l) (hb1 : ∀ i, fp0 i → i < b1) (hb2 : w0.heap.size ≤ b1) (h3 : St w0 w3 pb fp1 N F) (hfp : ∀ i, fp1 i → fp0 i ∨ w2.heap.size ≤ i) (hT : Turned fp0 w2 w3) : Beside w0 w3 pb fp1 N F a l.length c := by
  have hne : ∀ g, (Value.slice a l.length c).ownBlock = some g → ¬ fp0 g := fun g hg hf => by
    have h4 := hb1 g hf
    have h5 := (World.ownsRow.lt ho g hg).1
    omega
  refine Beside.mk h3 (owns_turned ho hT hne) (fun g hg _ ha => ⟨fun hf => ?_, by omega⟩)
  subst ha
  have h6 := (World.ownsRow.lt ho g rfl).2
  rcases hfp g hf with h7 | h7
  · exact hne g rfl h7
  · omega
theorem beside_read {w0 wr w5 : World} {pb N : Nat} {fp : Nat → Prop} {F : Tab} {a : Option Addr} {c : Nat} {l : List (BitVec 8)} (h : St w0 wr pb fp N F) (ho : Owns w5 wr.heap.size (.slice a l.length c) l) (h5 : St w0 w5 pb fp N F) : Beside w0 w5 pb fp N F a l.length c :=
  Beside.mk h5 ho (fun g hg _ _ => ⟨fun hf => by have := h.1.lt hf; omega, by have := h.2.1.size; omega⟩)
theorem app_bytes2 (k : Key) (l m : List (BitVec 8)) : bytesOf (appF (appF none' k l) k m) k = l ++ m := by rw [bytesOf_app, bytesOf_app]; rfl
theorem app_bytes1 (k : Key) (l : List (BitVec 8)) : bytesOf (appF none' k l) k = l := by rw [bytesOf_app]; rfl

/-! ### STEP 1: THE WALK: the Go text returns true, AND WRITES NOTHING THAT WAS THERE: 'Below w.heap.size w w'' (Derived/Below.lean: '.refl', '.alloc', '.drew', '.setCell' at a new block, '.trans'). Open each 'IsRow' by 'rcases' AHEAD of 'go_enter'; part every test ahead of the walk. -/
set_option maxHeartbeats 1000000 in
set_option maxRecDepth 100000 in
theorem walk (a0 : ByteArray) (a1 : Option Addr) (len1 cap1 : Nat) (z1 : List Int) (a2 : Option Addr) (len2 cap2 : Nat) (z2 : List Int) (w : World) (w0 : a0.size ≤ maxLen) (w1 : IsRow .u8 w a1 len1 cap1 z1) (w2 : IsRow .u8 w a2 len2 cap2 z2) :
    Calls Try.prog 6 #[.string a0, .slice a1 len1 cap1, .slice a2 len2 cap2] w fun e w' => e = .returned (.bool true) ∧ Below w.heap.size w w' := by
  obtain ⟨l, hl, hr⟩ := readsV_of w1
  obtain ⟨m, hm, hq⟩ := readsV_of w2
  clear w1 w2
  have HR : Hid (ReadsV w (.slice a1 len1 cap1) l ∧ ReadsV w (.slice a2 len2 cap2) m ∧ l.length = len1 ∧ m.length = len2) := ⟨hr, hq, hl.symm, hm.symm⟩
  clear hr hq hl hm
  have HW : Hid (∀ w', Below w.heap.size w w' → Calls Try.prog 9 #[] w' fun e w2 => e = .returned (.bool true) ∧ Below w.heap.size w w2) := fun w' hB => (works_any w').mono fun e w2 ⟨he, h⟩ => ⟨he, hB.trans (h.mono hB.size)⟩
  by_cases h1 : 2000 < len1
  · go_enter Try.func6, Try.ntmps6
    go_wp2_with (first
      | (go_at_call 10; refine (new_st _).mono ?_; rintro e w1 ⟨pb, fp0, rfl, h0, -, -⟩; have H0 : Hid (St w w1 pb fp0 0 none') := h0; clear h0; have e1 := eqlP ⟨pb, 0, none⟩; have e2 := neqP ⟨pb, 0, none⟩)
      | (go_at_call 9; refine (HW.out _ H0.out.2.1).mono ?_; rintro e w2 ⟨rfl, hB⟩))
    go_ret
    exact ⟨rfl, hB⟩
  by_cases h2 : 2000 < len2
  · go_enter Try.func6, Try.ntmps6
    go_wp2_with (first
      | (go_at_call 10; refine (new_st _).mono ?_; rintro e w1 ⟨pb, fp0, rfl, h0, -, -⟩; have H0 : Hid (St w w1 pb fp0 0 none') := h0; clear h0; have e1 := eqlP ⟨pb, 0, none⟩; have e2 := neqP ⟨pb, 0, none⟩)
      | (go_at_call 9; refine (HW.out _ H0.out.2.1).mono ?_; rintro e w2 ⟨rfl, hB⟩))
    go_ret
    exact ⟨rfl, hB⟩
  have HL : Hid (l.length ≤ 2000 ∧ m.length ≤ 2000) := ⟨by rw [HR.out.2.2.1]; omega, by rw [HR.out.2.2.2]; omega⟩
  have HL1 : Hid (([] : List (BitVec 8)).length + l.length ≤ 140737488355328) := by show 0 + _ ≤ _; have := HL.out.1; omega
  by_cases hn : nm a0 = true
  case neg =>
    have hn' : nm a0 = false := by simpa using hn
    have HN : Hid (a0.size ≤ maxLen ∧ nm a0 = false) := ⟨w0, hn'⟩
    clear hn hn' w0
    go_enter Try.func6, Try.ntmps6
    go_wp2_with (first
      | (go_at_call 10; refine (new_st _).mono ?_; rintro e w1 ⟨pb, fp0, rfl, h0, -, -⟩; have H0 : Hid (St w w1 pb fp0 0 none') := h0; clear h0; have e1 := eqlP ⟨pb, 0, none⟩; have e2 := neqP ⟨pb, 0, none⟩)
      | (at_builtin; refine wpList_append_bytes rfl (.tmp 32) (.tmp 33) 30 rfl _ Try.underlying30 Try.info5 _ [] rfl (Owns.nil _ _) _ l rfl (HR.out.1.below H0.out.2.1) HL1.out (Nat.le_refl _) ?_; intro v1 w2 hown1 hg1; have H1 : Hid (St w w2 pb fp0 0 none') := H0.out.kept (below_turned hg1); clear hown1 hg1 H0)
      | (go_at_call 9; refine (HW.out _ H2.out).mono ?_; rintro e w5 ⟨rfl, hB⟩)
      | (go_at_call 20; have := H1; refine (append_no pb a0 _ _ HN.out.1 HN.out.2).mono ?_; rintro e w3 ⟨rfl, hw⟩; have hw2 := hw.symm; clear hw; subst hw2)
      | (go_at_call 17; have := H1; refine (St.names H1.out (by decide)).mono ?_; rintro e w9 ⟨na, ks, nc, rfl, hks, -, -, -, h9, -⟩; obtain rfl := names_none hks; have H2 : Hid (Below w.heap.size w w9) := h9.2.1; clear h9 hks))
    go_ret
    exact ⟨rfl, hB⟩
  case pos =>
    have HN : Hid (a0.size ≤ maxLen ∧ nm a0 = true) := ⟨w0, hn⟩
    have HL2 : Hid (l.length + m.length ≤ 140737488355328) := by show _ ≤ _; have := HL.out; omega
    have HF1 : Hid (Fits (appF none' (key a0) l) 2000) := fun k x t h => by
      have h1 := fits_app fits_none (key a0) l k x t h
      have h2 := HL.out.1
      omega
    have HF2 : Hid (Fits (appF (appF none' (key a0) l) (key a0) m) 4000) := fun k x t h => by
      have h1 := fits_app HF1.out (key a0) m k x t h
      have h2 := HL.out.2
      omega
    clear hn w0
    go_enter Try.func6, Try.ntmps6
    go_wp2_with (first
      | (go_at_call 10; refine (new_st _).mono ?_; rintro e w1 ⟨pb, fp0, rfl, h0, -, -⟩; have H0 : Hid (St w w1 pb fp0 0 none') := h0; clear h0; have e1 := eqlP ⟨pb, 0, none⟩; have e2 := neqP ⟨pb, 0, none⟩)
      | (at_builtin; refine wpList_append_bytes rfl (.tmp 32) (.tmp 33) 30 rfl _ Try.underlying30 Try.info5 _ [] rfl (Owns.nil _ _) _ l rfl (HR.out.1.below H0.out.2.1) HL1.out (Nat.le_refl _) ?_; intro v1 w2 hown1 hg1; obtain ⟨ia, ic, rfl, -, -⟩ := own_form hown1; have H1 : Hid (St w w2 pb fp0 0 none' ∧ Owns w2 w1.heap.size (.slice ia l.length ic) l ∧ (∀ i, fp0 i → i < w1.heap.size) ∧ w.heap.size ≤ w1.heap.size) := ⟨H0.out.kept (below_turned hg1), hown1, fun i hi => H0.out.1.lt hi, H0.out.2.1.size⟩; clear hown1 hg1 H0)
      | (go_at_call 20; have := H1; refine (St.app2 (s := a0) (b := l) H1.out.1 HN.out.1 (by decide) fits_none (by decide) (ReadsV.of_own H1.out.2.1) (by have := HL.out.1; omega) HN.out.2).mono ?_; rintro e w3 ⟨rfl, fp1, h3, hfp, hT⟩; have H2 : Hid (Beside w w3 pb fp1 1 (appF none' (key a0) l) ia l.length ic) := beside_app H1.out.1 H1.out.2.1 H1.out.2.2.1 H1.out.2.2.2 h3 hfp hT; clear h3 hfp hT H1))
    have hl2 : l.length ≤ 2000 := HL.out.1
    go_loopw [11] (fun i wr => ∃ j : Nat, j ≤ l.length ∧ i = .int .i64 j ∧ Hid (Beside w wr pb fp1 1 (appF none' (key a0) l) ia l.length ic)) (fun i _ => l.length - (intOf i).toNat)
    case atStart => exact ⟨0, Nat.zero_le _, rfl, H2.out⟩
    case round =>
      obtain ⟨j, hj, rfl, HJ⟩ := hrel
      by_cases hlt : j < l.length
      · obtain ⟨_, li, hli, ho, _, hp⟩ := HJ.out
        obtain ⟨g, rfl⟩ := hp (by omega)
        obtain ⟨z, hz, hz0, hz1, hfz⟩ := own_at ho hli hlt
        clear ho hli hp
        go_wp2
        go_roundw
        case rel => exact ⟨j + 1, by omega, by go_num, HJ.out.set (by omega) (by omega)⟩
        case measure => simp [intOf]; omega
      · have hlt' : ¬ (j : Int) < (l.length : Int) := by omega
        clear hlt H2
        have H3 : Hid (St w wr pb fp1 1 (appF none' (key a0) l)) := HJ.out.1
        go_wp2_with (go_at_call 15; refine (St.read (s := a0) H3.out HN.out.1 HF1.out (by decide)).mono ?_; rw [app_bytes1]; rintro e w5 ⟨v', rfl, ho, h5, hB⟩; obtain ⟨oa, oc, rfl, -, -⟩ := own_form ho; have H4 : Hid (Beside w w5 pb fp1 1 (appF none' (key a0) l) oa l.length oc) := beside_read H3.out ho h5; clear ho h5 hB)
        go_loopw [13] (fun i wr => ∃ j : Nat, j ≤ l.length ∧ i = .int .i64 j ∧ Hid (Beside w wr pb fp1 1 (appF none' (key a0) l) oa l.length oc)) (fun i _ => l.length - (intOf i).toNat)
        case atStart => exact ⟨0, Nat.zero_le _, rfl, H4.out⟩
        case round =>
          obtain ⟨j2, hj2, rfl, HJ2⟩ := hrel
          by_cases hlt2 : j2 < l.length
          · obtain ⟨_, li, hli, ho, _, hp⟩ := HJ2.out
            obtain ⟨g, rfl⟩ := hp (by omega)
            obtain ⟨z, hz, hz0, hz1, hfz⟩ := own_at ho hli hlt2
            clear ho hli hp
            go_wp2
            go_roundw
            case rel => exact ⟨j2 + 1, by omega, by go_num, HJ2.out.set (by omega) (by omega)⟩
            case measure => simp [intOf]; omega
          · have hlt2' : ¬ (j2 : Int) < (l.length : Int) := by omega
            clear hlt2 H4
            have H5 : Hid (St w wr pb fp1 1 (appF none' (key a0) l)) := HJ2.out.1
            go_wp2_with (first
              | (go_at_call 9; have := HG; refine (HW.out _ HG.out).mono ?_; rintro e wz ⟨rfl, hB⟩)
              | (go_at_call 14; have := HE; refine (same_yes _ _ (l ++ m) _ HE.out.2.1 HE.out.2.2).mono ?_; rintro e wg ⟨rfl, hw⟩; have HG : Hid (Below w.heap.size w wg) := (show Below w.heap.size w wg by rw [hw]; exact HE.out.1); clear hw HE)
              | (go_at_call 15; have := HDD; refine (St.read (s := a0) HDD.out.1 HN.out.1 HF2.out (by decide)).mono ?_; rw [app_bytes2]; rintro e we ⟨ve, rfl, ho, h5, hB⟩; have HE : Hid (Below w.heap.size w we ∧ ReadsV we ve (l ++ m) ∧ ReadsV we vd (l ++ m)) := ⟨h5.2.1, ReadsV.of_own ho, HDD.out.2.below hB⟩; clear ho h5 hB HDD)
              | (at_builtin; have := HC; refine wpList_append_bytes rfl (.tmp 82) (.tmp 83) 30 rfl w6.heap.size Try.underlying30 Try.info5 _ l rfl HC.out.2.1 _ m rfl (HR.out.2.1.below HC.out.1.2.1) HL2.out HC.out.2.2.size ?_; intro vd wd hown1 hg1; have HDD : Hid (St w wd pb fp6 2 (appF (appF none' (key a0) l) (key a0) m) ∧ ReadsV wd vd (l ++ m)) := ⟨HB6.out.kept (below_turned (HC.out.2.2.trans hg1)), ReadsV.of_own hown1⟩; clear hown1 hg1 HC)
              | (at_builtin; have := HB6; refine wpList_append_bytes rfl (.tmp 79) (.tmp 80) 30 rfl w6.heap.size Try.underlying30 Try.info5 _ [] rfl (Owns.nil _ _) _ l rfl (HR.out.1.below HB6.out.2.1) HL1.out (Nat.le_refl _) ?_; intro vc wc hown1 hg1; have HC : Hid (St w wc pb fp6 2 (appF (appF none' (key a0) l) (key a0) m) ∧ Owns wc w6.heap.size vc l ∧ Below w6.heap.size w6 wc) := ⟨HB6.out.kept (below_turned hg1), hown1, hg1⟩; clear hown1 hg1)
              | (go_at_call 20; have := H5; refine (St.app2 (s := a0) (b := m) H5.out HN.out.1 (by decide) HF1.out (by decide) (HR.out.2.1.below H5.out.2.1) (by have := HL.out.2; omega) HN.out.2).mono ?_; rintro e w6 ⟨rfl, fp6, h6, -, -⟩; have HB6 : Hid (St w w6 pb fp6 2 (appF (appF none' (key a0) l) (key a0) m)) := h6; clear h6 H5))
            go_ret
            exact ⟨rfl, hB⟩

/-! ### THE ROW's STEP: WRITTEN OUT: LEAVE IT -/
set_option maxRecDepth 100000 in
theorem lifted (os : Os) (started : os.Started) (H : Type) (enc : TypeId × Value → H) :
    ReturnsInHanded {} Try.checked os 6 .any (Rows.diskOwnSpec.pre6 enc Try.prog Try.f6 Rows.diskOwnRow.domain false) (Rows.diskOwnSpec.post enc Try.prog Try.f6 false true false false) := by
  refine returnsInHanded_of_change (C := Try.checked) own started (by kernel_rfl) Try.func6
    (ChangeSpec.witness6 (enc := enc) (C := Try.checked) false ⟨#[], #[.string ByteArray.empty, .slice none 0 0, .slice none 0 0], []⟩ 8 (by kernel_rfl) (by kernel_rfl) (by kernel_rfl) (by kernel_rfl)) ?_
  intro W base args ds gs before hval0 hW hcnd _
  have hval : ∀ (j : Nat) t v, Try.f6.params[j]? = some t → args[j]? = some v → Value.okWide Try.prog W .any base t v := hval0
  have hW' := hW
  obtain ⟨p, q, hA0, hV, rfl, hfz, hnd⟩ := hW
  have hA : DataW.TrodAll enc Try.prog W 0 (fun _ => true) true Try.f6.params.toList args.toList ds p := hA0
  rw [Try.params6] at hA hval
  obtain ⟨v0, vs0, d0, ds0, p0, q0, hargs, rfl, rfl, h0, r0⟩ := trodAll_cons hA
  obtain ⟨v1, vs1, d1, ds1, p1, q1, rfl, rfl, rfl, h1, r1⟩ := trodAll_cons r0
  obtain ⟨v2, vs2, d2, ds2, p2, q2, rfl, rfl, rfl, h2, r2⟩ := trodAll_cons r1
  obtain ⟨rfl, rfl, rfl⟩ := trodAll_nil r2
  obtain rfl : args = #[v0, v1, v2] := by cases args; simp_all
  obtain ⟨rfl, rfl⟩ := trodVars_none hV
  obtain ⟨a0, rfl, rfl, rfl, w0⟩ := open_string Try.underlying9 (hval 0 9 v0 rfl rfl) h0
  obtain ⟨a1, len1, cap1, rfl⟩ := okWide_slice Try.underlying30 (hval 1 30 v1 rfl rfl)
  have k1 := h1
  have lt1 : ∀ x ∈ p1, x.block < W.heap.size := by obtain ⟨m, hm⟩ := k1; exact DataW.trod_lt m _ _ _ hm
  obtain ⟨z1, w1⟩ : ∃ zs, IsRow .u8 W a1 len1 cap1 zs := by
    obtain ⟨fuel, hf⟩ := h1
    rcases open_ints Try.underlying30 Try.underlying5 (by kernel_rfl) hf with ⟨hcs, _⟩ | ⟨x, l, c, zs, hcs, _, hl, hm, hz, _, hcell, hwz⟩
    · simp [Value.cells] at hcs
      obtain ⟨rfl, rfl, rfl⟩ := hcs
      exact ⟨[], .inl ⟨rfl, rfl, rfl, rfl⟩⟩
    · simp [Value.cells] at hcs
      obtain ⟨rfl, rfl, rfl⟩ := hcs
      exact ⟨zs, .inr ⟨_, rfl, hl, hm, by simpa using hz, hcell, hwz⟩⟩
  obtain ⟨a2, len2, cap2, rfl⟩ := okWide_slice Try.underlying30 (hval 2 30 v2 rfl rfl)
  have k2 := h2
  have lt2 : ∀ x ∈ p2, x.block < W.heap.size := by obtain ⟨m, hm⟩ := k2; exact DataW.trod_lt m _ _ _ hm
  obtain ⟨z2, w2⟩ : ∃ zs, IsRow .u8 W a2 len2 cap2 zs := by
    obtain ⟨fuel, hf⟩ := h2
    rcases open_ints Try.underlying30 Try.underlying5 (by kernel_rfl) hf with ⟨hcs, _⟩ | ⟨x, l, c, zs, hcs, _, hl, hm, hz, _, hcell, hwz⟩
    · simp [Value.cells] at hcs
      obtain ⟨rfl, rfl, rfl⟩ := hcs
      exact ⟨[], .inl ⟨rfl, rfl, rfl, rfl⟩⟩
    · simp [Value.cells] at hcs
      obtain ⟨rfl, rfl, rfl⟩ := hcs
      exact ⟨zs, .inr ⟨_, rfl, hl, hm, by simpa using hz, hcell, hwz⟩⟩
  clear hA0 hval0
  refine (walk a0 a1 len1 cap1 z1 a2 len2 cap2 z2 W w0 w1 w2).mono fun e W' ⟨he, bel⟩ => ?_
  subst he
  exact ⟨_, rfl, _, _, _, [], _, [], hW', trodAll_mk1 (shut_bool Try.underlying4 _), (trodAll_cons_mk (shut_string Try.underlying9 w0) (trodAll_cons_mk (Below.trod laidOut (by kernel_rfl) (of_decide_eq_true (by kernel_rfl)) k1 bel lt1) (trodAll_cons_mk (Below.trod laidOut (by kernel_rfl) (of_decide_eq_true (by kernel_rfl)) k2 bel lt2) trodAll_mk0))), rfl, bel.frame _, fun h => by cases h⟩

theorem over : Rows.diskOwnRow.holds Try.pinned (OpenSpec.ofChange Rows.diskOwnSpec) :=
  OpenClaim.holds_of_wide 6 Try.f6 rfl rfl rfl rfl rfl rfl rfl ⟨rfl, rfl, rfl, rfl, rfl⟩ rfl rfl rfl rfl rfl (by kernel_rfl) Try.func6 (by kernel_rfl)
    (of_decide_eq_true (by kernel_rfl)) (by unfold Func.isWrapper; first | (rw [if_pos (by decide +kernel)]; kernel_rfl) | (rw [if_neg (by decide +kernel)]; exact ⟨rfl, rfl⟩))
    (fun os started H enc _ => lifted os started H enc)

/-- ████ THE STATEMENT ████ -/
theorem proved : Rows.DiskOwnSaid := over
#print axioms proved
end Go.Proofs.Ytcmnjiichkcmgaa.diskOwn
