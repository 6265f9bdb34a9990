/-
  A tree's weight: contracts.
-/
import Derived.Test.YtlaiacjlphjmlaaBasZ
import Derived.Test.YtlaiacjlphjmlaaChD
import Derived.Deep.Slices
import Derived.SizedLaws
import Derived.Test.YtlaiacjlphjmlaaDfW
import Derived.Test.YtlaiacjlphjmlaaVZ
import Derived.SliceStrings
import Derived.Test.YtlaiacjlphjmlaaOnZ
import Derived.Deep.RegionHeld3
namespace Go.Proofs.Ytlaiacjlphjmlaa
section
open Go.RowKit
set_option linter.unusedVariables false



/-- Some number is told. -/
def Numb (w : World) (e : Ending) (w' : World) : Prop := ∃ x : Int, e = .returned (.int .i64 x) ∧ InR x ∧ Below w.heap.size w w'
theorem wrap64_in (x : Int) : InR (wrap64 x) := by
  unfold wrap64
  constructor <;> omega
theorem getD_memW {l : List Tr} {i : Nat} (h : i < l.length) : l.getD i zeroT ∈ l := by rw [List.getD_eq_getElem?_getD, List.getElem?_eq_getElem h]; exact List.getElem_mem h
def WeighOk (t : Tr) : Prop := ∀ (P : Nat → Prop) (v : Value) (w : World) (most deep : Int), InR most → InR deep → Tre w P v t → Calls Try.prog 39 #[v, .int .i64 most, .int .i64 deep] w (Numb w)
set_option maxRecDepth 100000 in
set_option maxHeartbeats 800000 in
theorem weigh_step (t : Tr) (ih : ∀ k ∈ t.kids, WeighOk k) : WeighOk t := by
  intro P v w most deep hm hd hT
  obtain ⟨a, cap, rfl, hcap, hk, hn, hnm, hlen, hkids⟩ := hT.opened
  have HK : Hid (∀ i, i < t.kids.length → ∃ b o ka kc, KidAt w P a i (t.kids.getD i zeroT) b o ka kc) := hkids
  have HI : Hid (∀ k ∈ t.kids, WeighOk k) := ih
  obtain ⟨m1, m2⟩ := hm
  obtain ⟨d1, d2⟩ := hd
  have hsz : (ba t.name).size ≤ 9223372036854775807 := hnm
  clear hkids ih hk hn hT hnm
  generalize t.kind = tk at *
  generalize t.n = tn at *
  generalize ba t.name = ts at *
  generalize t.kids = ks at *
  go_enter Try.func39, Try.ntmps39
  go_wp2_with fail
  go_loopw [7, 8] (fun n i wr => ∃ (x : Int) (j : Nat), n = .int .i64 x ∧ -9223372036854775808 ≤ x ∧ x ≤ 9223372036854775807 ∧ i = .int .i64 j ∧ j ≤ ks.length ∧ Hid (Below w.heap.size w wr ∧ Cell4 wr w.heap.size (.int .i64 tk) (.int .i64 tn) (.string ts) (.slice a ks.length cap))) (fun _ i _ => ks.length - (intOf i).toNat)
  case atStart => exact ⟨_, 0, rfl, by omega, by omega, rfl, Nat.zero_le _, (Below.refl _ _).alloc (Nat.le_refl _) _, Cell4.new _ _ _ _ _ 69⟩
  case round =>
    obtain ⟨x, j, rfl, hx1, hx2, rfl, hj, HR⟩ := hrel
    obtain ⟨q0, q1, q2, q3, q4⟩ := HR.out.2
    by_cases hlt : j < ks.length
    · by_cases hxm : x ≤ most
      · by_cases hd0 : deep = 0
        · subst hd0
          have HB3 : Hid (Below w.heap.size w wr) := HR.out.1
          clear HR
          go_wp2_with fail
          go_ret
          exact ⟨_, rfl, wrap64_in _, HB3.out⟩
        · obtain ⟨b, o, ka, kc, hKA⟩ := HK.out j hlt
          have HKA : Hid (KidAt wr P a j (ks.getD j zeroT) b o ka kc) := hKA.below HR.out.1
          obtain ⟨rfl, k0, k1, k2, k3, _⟩ := HKA.out
          have HC : Hid (∀ w (most deep : Int), InR most → InR deep → Tre w P (.agg #[.int .i64 (ks.getD j zeroT).kind, .int .i64 (ks.getD j zeroT).n, .string (ba (ks.getD j zeroT).name), .slice ka (ks.getD j zeroT).kids.length kc]) (ks.getD j zeroT) → Calls Try.prog 39 #[.agg #[.int .i64 (ks.getD j zeroT).kind, .int .i64 (ks.getD j zeroT).n, .string (ba (ks.getD j zeroT).name), .slice ka (ks.getD j zeroT).kids.length kc], .int .i64 most, .int .i64 deep] w (Numb w)) := fun w most deep h1 h2 h3 => HI.out _ (getD_memW hlt) P _ w most deep h1 h2 h3
          have HKT : Hid (Tre wr P (.agg #[.int .i64 (ks.getD j zeroT).kind, .int .i64 (ks.getD j zeroT).n, .string (ba (ks.getD j zeroT).name), .slice ka (ks.getD j zeroT).kids.length kc]) (ks.getD j zeroT)) := HKA.out.tre
          clear hKA HKA
          generalize (ks.getD j zeroT).kind = yk at *
          generalize (ks.getD j zeroT).n = yn at *
          generalize ba (ks.getD j zeroT).name = ys at *
          generalize (ks.getD j zeroT).kids.length = yl at *
          generalize ks.getD j zeroT = y at *
          go_wp2_with (go_at_call 39; have := HKT; refine (HC.out _ _ _ (wrap64_in _) (wrap64_in _) HKT.out).mono ?_; rintro e w3 ⟨z, rfl, hz, HB⟩; have HB3 : Hid (Below w.heap.size w w3 ∧ Cell4 w3 w.heap.size (.int .i64 tk) (.int .i64 tn) (.string ts) (.slice (some ⟨b, o, none⟩) ks.length cap)) := ⟨HR.out.1.trans (HB.mono HR.out.1.size), HR.out.2.below HB⟩; clear HB HKT)
          go_roundw
          case rel => exact ⟨_, j + 1, rfl, (wrap64_in _).1, (wrap64_in _).2, by go_num, by omega, HB3.out⟩
          case measure => simp [intOf]; omega
      · have HB3 : Hid (Below w.heap.size w wr) := HR.out.1
        clear HR
        go_wp2_with fail
        go_ret
        exact ⟨x, rfl, ⟨hx1, hx2⟩, HB3.out⟩
    · have HB3 : Hid (Below w.heap.size w wr) := HR.out.1
      clear HR
      go_wp2_with fail
      go_ret
      exact ⟨x, rfl, ⟨hx1, hx2⟩, HB3.out⟩
theorem weigh_any (t : Tr) : WeighOk t := Tr.ind weigh_step t
end
section
open Go.RowKit
set_option linter.unusedVariables false

set_option maxRecDepth 100000 in
theorem weightT_any (P : Nat → Prop) (t : Tr) (k n : Int) (s : ByteArray) (a : Option Addr) (l c : Nat) (most : Int) (w : World) (hm : InR most) (hT : Tre w P (.agg #[.int .i64 k, .int .i64 n, .string s, .slice a l c]) t) : Calls Try.prog 25 #[.agg #[.int .i64 k, .int .i64 n, .string s, .slice a l c], .int .i64 most] w (Numb w) := by
  have HW : Hid (∀ o, Calls Try.prog 39 #[.agg #[.int .i64 k, .int .i64 n, .string s, .slice a l c], .int .i64 most, .int .i64 30] (w.alloc o) (Numb (w.alloc o))) := fun o => weigh_any t P _ _ most 30 hm ⟨by decide, by decide⟩ (hT.alloc o)
  clear hT hm
  go_enter Try.func25, Try.ntmps25
  go_wp2_with (go_at_call 39; refine (HW.out _).mono ?_; rintro e w1 ⟨x, rfl, hx, q⟩; have HX : Hid (InR x ∧ Below w.heap.size w w1) := ⟨hx, below_new q⟩; clear hx q)
  go_ret
  exact ⟨x, rfl, HX.out.1, HX.out.2⟩
/-- A number in its bounds. -/
def IsN (v : Value) : Prop := ∃ x : Int, v = .int .i64 x ∧ -9223372036854775808 ≤ x ∧ x ≤ 9223372036854775807
theorem isN_wrap (x : Int) : IsN (.int .i64 (wrap64 x)) := ⟨_, rfl, (wrap64_in x).1, (wrap64_in x).2⟩
set_option maxRecDepth 100000 in
set_option maxHeartbeats 2000000 in
theorem Weight_any (P : Nat → Prop) (d : Df) (a : Option Addr) (c : Nat) (w : World) (hd : DfV w P d a c) : Calls Try.prog 12 #[.agg #[.string (ba d.id), .slice a d.places.length c], .int .i64 600] w (Numb w) := by
  obtain ⟨hc, hl⟩ := hd.places.cap
  have hsz : (ba d.id).size ≤ 9223372036854775807 := hd.id
  have HP : Hid (∀ i w2, i < d.places.length → Below w.heap.size w w2 → ∃ b o aa ca ao co, a = some ⟨b, o, none⟩ ∧ PlAt w2 P b (o + i * 5) (d.places.getD i zeroP) aa ca ao co) := fun i w2 hi hb => by
    obtain ⟨b, o, aa, ca, ao, co, h1, h2, h3⟩ := hd.places.at i hi
    exact ⟨b, o, aa, ca, ao, co, h1, h3.kept h2 (kept_below hb)⟩
  have HWt : Hid (∀ t k n s a l c w, Tre w P (.agg #[.int .i64 k, .int .i64 n, .string s, .slice a l c]) t → Calls Try.prog 25 #[.agg #[.int .i64 k, .int .i64 n, .string s, .slice a l c], .int .i64 600] w (Numb w)) := fun t k n s a l c w h => weightT_any P t k n s a l c 600 w ⟨by decide, by decide⟩ h
  clear hd
  generalize ba d.id = ds at *
  generalize d.places = pl at *
  go_enter Try.func12, Try.ntmps12
  go_wp2
  go_loopw [5, 6] (fun n i wr => IsN n ∧ ∃ (j : Nat), j ≤ pl.length ∧ i = .int .i64 j ∧ Hid (Below w.heap.size w wr ∧ Cell2 wr w.heap.size (.string ds) (.slice a pl.length c))) (fun _ i _ => pl.length - (intOf i).toNat)
  case atStart => exact ⟨⟨_, rfl, by omega, by omega⟩, 0, Nat.zero_le _, rfl, (Below.refl _ _).alloc (Nat.le_refl _) _, Cell2.new w _ _ 24⟩
  case round =>
    obtain ⟨⟨x, rfl, hx1, hx2⟩, j, hj, rfl, HR⟩ := hrel
    obtain ⟨q0, q1, q2⟩ := HR.out.2
    by_cases hcond : j < pl.length ∧ x ≤ 600
    case neg =>
      have hor : ¬ j < pl.length ∨ (j < pl.length ∧ ¬ x ≤ 600) := by omega
      have HB3 : Hid (Below w.heap.size w wr) := HR.out.1
      clear HR hcond
      rcases hor with hn | ⟨hlt, hn⟩
      all_goals (
        go_wp2_with fail
        go_ret
        exact ⟨x, rfl, ⟨hx1, hx2⟩, HB3.out⟩)
    obtain ⟨hlt, hxm⟩ := hcond
    obtain ⟨b, o, aa, ca, ao, co, rfl, hPA⟩ := HP.out j wr hlt HR.out.1
    have HV : Hid (PlV wr P (pl.getD j zeroP) aa ca ao co) := hPA.val
    obtain ⟨p0, p1, p2, p3, p4, _⟩ := hPA
    have hps : (ba (pl.getD j zeroP).name).size ≤ 9223372036854775807 := HV.out.name
    have hla := HV.out.arg.cap
    have hlo := HV.out.out.cap
    obtain ⟨hla1, hla2⟩ := hla
    obtain ⟨hlo1, hlo2⟩ := hlo
    have hbl : b < wr.heap.size := World.block_lt_of_cell? wr _ p0
    have hwl : w.heap.size < wr.heap.size := HR.out.2.lt
    have HA : Hid (∀ i wx, i < (pl.getD j zeroP).arg.length → Below wr.heap.size wr wx → ∃ g o ka kc, KidAt wx P aa i ((pl.getD j zeroP).arg.getD i zeroT) g o ka kc) := fun i wx hi hb => by
      obtain ⟨a', c', e, _, _, q⟩ := (HV.out.arg.kept (kept_below hb)).form
      simp only [Value.slice.injEq] at e
      obtain ⟨g, o, ka, kc, q⟩ := q i hi
      rw [← e.1] at q
      exact ⟨g, o, ka, kc, q⟩
    have HO : Hid (∀ i wx, i < (pl.getD j zeroP).out.length → Below wr.heap.size wr wx → ∃ g o ka kc, ao = some ⟨g, o, none⟩ ∧ FlAt wx P g (o + i * 2) ((pl.getD j zeroP).out.getD i zeroF) ka kc) := fun i wx hi hb => by
      obtain ⟨g, o, ka, kc, e, _, q⟩ := (HV.out.out.kept (kept_below hb)).at i hi
      exact ⟨g, o, ka, kc, e, q⟩
    clear HV
    generalize (pl.getD j zeroP).arg = par at *
    generalize (pl.getD j zeroP).out = pou at *
    generalize (pl.getD j zeroP).kind = pk at *
    generalize (pl.getD j zeroP).n = pn at *
    generalize ba (pl.getD j zeroP).name = ps at *
    obtain ⟨w0, hw0⟩ : ∃ w0, w0 = wr := ⟨_, rfl⟩
    subst hw0
    have H0 : Hid (Below w0.heap.size w0 (w0.alloc (.cells #[.int .i64 pk, .string ps, .int .i64 pn, .slice aa par.length ca, .slice ao pou.length co] 37)) ∧ Cell5 (w0.alloc (.cells #[.int .i64 pk, .string ps, .int .i64 pn, .slice aa par.length ca, .slice ao pou.length co] 37)) w0.heap.size (.int .i64 pk) (.string ps) (.int .i64 pn) (.slice aa par.length ca) (.slice ao pou.length co)) := ⟨(Below.refl _ _).alloc (Nat.le_refl _) _, Cell5.new w0 _ _ _ _ _ 37⟩
    go_wp2_with fail
    go_loopw [5, 8] (fun n k wr => IsN n ∧ ∃ (i : Nat), i ≤ par.length ∧ k = .int .i64 i ∧ Hid (Below w0.heap.size w0 wr ∧ Cell5 wr w0.heap.size (.int .i64 pk) (.string ps) (.int .i64 pn) (.slice aa par.length ca) (.slice ao pou.length co))) (fun _ k _ => par.length - (intOf k).toNat)
    case atStart => exact ⟨isN_wrap _, 0, Nat.zero_le _, rfl, H0.out⟩
    case round =>
      obtain ⟨⟨x1, rfl, hy1, hy2⟩, i1, hi1, rfl, HR1⟩ := hrel
      obtain ⟨b0, b1, b2, b3, b4, b5⟩ := HR1.out.2
      by_cases hcond : i1 < par.length ∧ x1 ≤ 600
      case pos =>
        obtain ⟨hlt1, hxm1⟩ := hcond
        obtain ⟨g, og, ka, kc, hKA⟩ := HA.out i1 wr hlt1 HR1.out.1
        obtain ⟨rfl, k0, k1, k2, k3, hT⟩ := hKA
        have HC : Hid (Calls Try.prog 25 #[.agg #[.int .i64 (par.getD i1 zeroT).kind, .int .i64 (par.getD i1 zeroT).n, .string (ba (par.getD i1 zeroT).name), .slice ka (par.getD i1 zeroT).kids.length kc], .int .i64 600] wr (Numb wr)) := HWt.out _ _ _ _ _ _ _ _ hT
        clear hT
        generalize (par.getD i1 zeroT).kind = yk at *
        generalize (par.getD i1 zeroT).n = yn at *
        generalize ba (par.getD i1 zeroT).name = ys at *
        generalize (par.getD i1 zeroT).kids.length = yl at *
        go_wp2_with (go_at_call 25; have := HC; refine HC.out.mono ?_; rintro e w3 ⟨z, rfl, hz, HB⟩; have HB3 : Hid (Below w0.heap.size w0 w3 ∧ Cell5 w3 w0.heap.size (.int .i64 pk) (.string ps) (.int .i64 pn) (.slice (some ⟨g, og, none⟩) par.length ca) (.slice ao pou.length co)) := ⟨HR1.out.1.trans (HB.mono HR1.out.1.size), HR1.out.2.below HB⟩; clear HB HC)
        go_roundw
        case rel => exact ⟨isN_wrap _, i1 + 1, by omega, by go_num, HB3.out⟩
        case measure => simp [intOf]; omega
      case neg =>
        have hor : ¬ i1 < par.length ∨ (i1 < par.length ∧ ¬ x1 ≤ 600) := by omega
        have H1 : Hid (Below w0.heap.size w0 wr ∧ Cell5 wr w0.heap.size (.int .i64 pk) (.string ps) (.int .i64 pn) (.slice aa par.length ca) (.slice ao pou.length co)) := HR1.out
        clear HR1 hcond HA
        obtain ⟨wq, hwq⟩ : ∃ w1, w1 = wr := ⟨_, rfl⟩
        subst hwq
        rcases hor with hn | ⟨hlt1, hn⟩
        all_goals (
          go_wp2_with fail
          clear b0 b1 b2 b3 b4 b5
          go_loopw [5, 9] (fun n k wr => IsN n ∧ ∃ (i : Nat), i ≤ pou.length ∧ k = .int .i64 i ∧ Hid (Below w0.heap.size w0 wr ∧ Cell5 wr w0.heap.size (.int .i64 pk) (.string ps) (.int .i64 pn) (.slice aa par.length ca) (.slice ao pou.length co))) (fun _ k _ => pou.length - (intOf k).toNat)
          case atStart => exact ⟨⟨_, rfl, hy1, hy2⟩, 0, Nat.zero_le _, rfl, H1.out⟩
          case round =>
            obtain ⟨⟨x2, rfl, hz1, hz2⟩, i2, hi2, rfl, HR2⟩ := hrel
            obtain ⟨b0, b1, b2, b3, b4, b5⟩ := HR2.out.2
            by_cases hcond : i2 < pou.length ∧ x2 ≤ 600
            case neg =>
              have hor : ¬ i2 < pou.length ∨ (i2 < pou.length ∧ ¬ x2 ≤ 600) := by omega
              have HB4 : Hid (Below w.heap.size w wr ∧ Cell2 wr w.heap.size (.string ds) (.slice (some ⟨b, o, none⟩) pl.length c)) := ⟨HR.out.1.trans (HR2.out.1.mono HR.out.1.size), HR.out.2.below HR2.out.1⟩
              clear HR2 hcond
              rcases hor with hn2 | ⟨hlt2, hn2⟩
              all_goals (
                go_wp2_with fail
                go_roundw
                case rel => exact ⟨⟨_, rfl, hz1, hz2⟩, j + 1, by omega, by go_num, HB4.out⟩
                case measure => simp [intOf]; omega)
            case pos =>
              obtain ⟨hlt2, hxm2⟩ := hcond
              have H2 : Hid (Below w0.heap.size w0 wr ∧ Cell5 wr w0.heap.size (.int .i64 pk) (.string ps) (.int .i64 pn) (.slice aa par.length ca) (.slice ao pou.length co)) := HR2.out
              clear HR2
              obtain ⟨wp, hwp⟩ : ∃ w1, w1 = wr := ⟨_, rfl⟩
              subst hwp
              have HO2 : Hid (∀ wx, Below w0.heap.size w0 wx → ∃ g o ka kc, ao = some ⟨g, o, none⟩ ∧ FlAt wx P g (o + i2 * 2) (pou.getD i2 zeroF) ka kc) := fun wx hb => HO.out i2 wx hlt2 hb
              clear HO
              generalize pou.getD i2 zeroF = fl2 at *
              go_wp2_with fail
              clear b0 b1 b2 b3 b4 b5
              go_loopw [5, 10] (fun n k wr => IsN n ∧ ∃ (i : Nat), i ≤ fl2.ifs.length ∧ k = .int .i64 i ∧ Hid (Below w0.heap.size w0 wr ∧ Cell5 wr w0.heap.size (.int .i64 pk) (.string ps) (.int .i64 pn) (.slice aa par.length ca) (.slice ao pou.length co))) (fun _ k _ => fl2.ifs.length - (intOf k).toNat)
              case atStart => exact ⟨⟨_, rfl, hz1, hz2⟩, 0, Nat.zero_le _, rfl, H2.out⟩
              case round =>
                obtain ⟨⟨x3, rfl, hv1, hv2⟩, i3, hi3, rfl, HR3⟩ := hrel
                obtain ⟨b0, b1, b2, b3, b4, b5⟩ := HR3.out.2
                obtain ⟨fg, fo, fa, fc, rfl, hFA⟩ := HO2.out wr HR3.out.1
                obtain ⟨f0, f1, hE, _⟩ := hFA
                obtain ⟨hfc1, hfc2⟩ := hE.cap
                by_cases hcond : i3 < fl2.ifs.length ∧ x3 ≤ 600
                case neg =>
                  have hor : ¬ i3 < fl2.ifs.length ∨ (i3 < fl2.ifs.length ∧ ¬ x3 ≤ 600) := by omega
                  have HB4 : Hid (Below w0.heap.size w0 wr ∧ Cell5 wr w0.heap.size (.int .i64 pk) (.string ps) (.int .i64 pn) (.slice aa par.length ca) (.slice (some ⟨fg, fo, none⟩) pou.length co)) := HR3.out
                  clear HR3 hcond hE
                  rcases hor with hn3 | ⟨hlt3, hn3⟩
                  all_goals (
                    go_wp2_with fail
                    go_roundw
                    case rel => exact ⟨⟨_, rfl, hv1, hv2⟩, i2 + 1, by omega, by go_num, HB4.out⟩
                    case measure => simp [intOf]; omega)
                case pos =>
                  obtain ⟨hlt3, hxm3⟩ := hcond
                  obtain ⟨a', c', e', _, _, hKs⟩ := hE.form
                  obtain ⟨g, og, ka, kc, hKA⟩ := hKs i3 hlt3
                  simp only [Value.slice.injEq] at e'
                  rw [← e'.1] at hKA
                  obtain ⟨rfl, k0, k1, k2, k3, hT⟩ := hKA
                  clear e' hKs hE
                  generalize fl2.ifs.getD i3 zeroT = tr3 at *
                  have HC : Hid (Calls Try.prog 25 #[.agg #[.int .i64 tr3.kind, .int .i64 tr3.n, .string (ba tr3.name), .slice ka tr3.kids.length kc], .int .i64 600] wr (Numb wr)) := HWt.out _ _ _ _ _ _ _ _ hT
                  clear hT
                  generalize tr3.kind = yk at *
                  generalize tr3.n = yn at *
                  generalize ba tr3.name = ys at *
                  generalize tr3.kids.length = yl at *
                  go_wp2_with (go_at_call 25; have := HC; refine HC.out.mono ?_; rintro e w3 ⟨z, rfl, hz, HB⟩; have HB3 : Hid (Below w0.heap.size w0 w3 ∧ Cell5 w3 w0.heap.size (.int .i64 pk) (.string ps) (.int .i64 pn) (.slice aa par.length ca) (.slice (some ⟨fg, fo, none⟩) pou.length co)) := ⟨HR3.out.1.trans (HB.mono HR3.out.1.size), HR3.out.2.below HB⟩; clear HB HC)
                  go_roundw
                  case rel => exact ⟨isN_wrap _, i3 + 1, by omega, by go_num, HB3.out⟩
                  case measure => simp [intOf]; omega)
set_option maxRecDepth 100000 in
theorem light_any (P : Nat → Prop) (d : Df) (a : Option Addr) (c : Nat) (w : World) (hd : DfV w P d a c) : Calls Try.prog 6 #[.agg #[.string (ba d.id), .slice a d.places.length c]] w fun e w' => (∃ b, e = .returned (.bool b)) ∧ Below w.heap.size w w' := by
  have HW : Hid (∀ o, Calls Try.prog 12 #[.agg #[.string (ba d.id), .slice a d.places.length c], .int .i64 600] (w.alloc o) (Numb (w.alloc o))) := fun o => Weight_any P d a c _ (hd.kept (kept_below ((Below.refl _ _).alloc (Nat.le_refl _) o)))
  clear hd
  generalize ba d.id = ds at *
  generalize d.places.length = pn at *
  go_enter Try.func6, Try.ntmps6
  go_wp2_with (go_at_call 12; refine (HW.out _).mono ?_; rintro e w1 ⟨x, rfl, hx, q⟩; have HX : Hid (Below w.heap.size w w1) := below_new q; clear q)
  go_ret
  exact ⟨⟨_, rfl⟩, HX.out⟩
end
section
open Go.ChangeShapes Go.WideShapes Go.ChangeAt Go.RowKit
set_option linter.unusedVariables false


theorem addW (b off i : Nat) : (⟨b, off, none⟩ : Addr).add i = ⟨b, off + i, none⟩ := by unfold Addr.add; split <;> simp_all
theorem in_of_wf {n : Int} (h : (Lit.int .i64 n).wf = true) : InR n := by
  simp only [Lit.wf, IntKind.min, IntKind.max, IntKind.signed, IntKind.bits, Bool.and_eq_true, decide_eq_true_eq, if_true] at h
  constructor <;> omega
section
variable {H : Type} {enc : TypeId × Value → H} {w : World}
set_option maxRecDepth 100000 in
theorem tre_of_trod : ∀ (fuel : Nat) (cs : List Value) (x : DataW H × List MemPlace), DataW.trod enc Try.prog w 0 (fun _ => true) true fuel 69 cs = some x →
    ∃ (t : Tr) (a : Option Addr) (cap : Nat), cs = [.int .i64 t.kind, .int .i64 t.n, .string (ba t.name), .slice a t.kids.length cap] ∧ TrV w (fun _ => True) (fuel + 1) (.agg #[.int .i64 t.kind, .int .i64 t.n, .string (ba t.name), .slice a t.kids.length cap]) t := by
  intro fuel
  induction fuel using Nat.strongRecOn with
  | ind fuel ih =>
    intro cs x h
    obtain ⟨xs, n, rfl, _, hlen, hxs, hf⟩ := DataW.trod_struct Try.underlying69 h
    have hc : Try.prog.cellsOf 69 = 4 := by kernel_rfl
    have hc3 : Try.prog.cellsOf 3 = 1 := by kernel_rfl
    have hc2 : Try.prog.cellsOf 2 = 1 := by kernel_rfl
    have hc9 : Try.prog.cellsOf 9 = 1 := by kernel_rfl
    have hc22 : Try.prog.cellsOf 34 = 1 := by kernel_rfl
    rw [hc] at hlen
    obtain ⟨c0, c1, c2, c3, rfl⟩ : ∃ c0 c1 c2 c3, cs = [c0, c1, c2, c3] := by
      match cs, hlen with
      | [c0, c1, c2, c3], _ => exact ⟨c0, c1, c2, c3, rfl⟩
    obtain ⟨y0, y1, y2, y3, rfl⟩ : ∃ y0 y1 y2 y3, xs = [y0, y1, y2, y3] := by
      have hxs4 : xs.length = 4 := by rw [hxs]; rfl
      match xs, hxs4 with
      | [y0, y1, y2, y3], _ => exact ⟨y0, y1, y2, y3, rfl⟩
    have f0 : DataW.trod enc Try.prog w 0 (fun _ => true) true n 3 ((List.drop 0 [c0, c1, c2, c3]).take (Try.prog.cellsOf 3)) = some y0 := hf 0 _ rfl
    have f1 : DataW.trod enc Try.prog w 0 (fun _ => true) true n 2 ((List.drop 1 [c0, c1, c2, c3]).take (Try.prog.cellsOf 2)) = some y1 := hf 1 _ rfl
    have f2 : DataW.trod enc Try.prog w 0 (fun _ => true) true n 9 ((List.drop 2 [c0, c1, c2, c3]).take (Try.prog.cellsOf 9)) = some y2 := hf 2 _ rfl
    have f3 : DataW.trod enc Try.prog w 0 (fun _ => true) true n 34 ((List.drop 3 [c0, c1, c2, c3]).take (Try.prog.cellsOf 34)) = some y3 := hf 3 _ rfl
    rw [hc3] at f0
    rw [hc2] at f1
    rw [hc9] at f2
    rw [hc22] at f3
    obtain ⟨k, e0, _, wk⟩ := DataW.trod_int Try.underlying3 (x := y0) f0
    obtain ⟨m, e1, _, wm⟩ := DataW.trod_int Try.underlying2 (x := y1) f1
    obtain ⟨s, e2, _, ws⟩ := DataW.trod_string Try.underlying9 (x := y2) f2
    simp at e0 e1 e2
    subst e0; subst e1; subst e2
    have hk : InR k := in_of_wf wk
    have hm : InR m := in_of_wf wm
    have wsz : s.data.toList.length ≤ 9223372036854775807 := by rw [Array.length_toList]; exact ws
    rcases DataW.trod_slice Try.underlying34 (x := y3) f3 with ⟨e3, _⟩ | ⟨a, len, cap, elems, rest, m2, hm2, e3, _, _, hl, hcm, hel, hin, _⟩
    · simp at e3
      subst e3
      refine ⟨⟨k, m, s.data.toList, []⟩, none, 0, by simp [ba_of], none, 0, rfl, Nat.le_refl _, hk, hm, wsz, Nat.zero_le _, fun i hi => by simp at hi⟩
    · simp at e3
      subst e3
      rw [hc] at hin
      have each : ∀ i, i < len → ∃ tt : Tr × Option Addr × Nat, (w.cell? ((a.add (i * 4)).add 0) = some (.int .i64 tt.1.kind) ∧ w.cell? ((a.add (i * 4)).add 1) = some (.int .i64 tt.1.n) ∧ w.cell? ((a.add (i * 4)).add 2) = some (.string (ba tt.1.name)) ∧ w.cell? ((a.add (i * 4)).add 3) = some (.slice tt.2.1 tt.1.kids.length tt.2.2)) ∧ TrV w (fun _ => True) (m2 + 1) (.agg #[.int .i64 tt.1.kind, .int .i64 tt.1.n, .string (ba tt.1.name), .slice tt.2.1 tt.1.kids.length tt.2.2]) tt.1 := by
        intro i hi
        have h1 := hin i hi
        have hi2 : i < elems.length := by omega
        rw [List.getElem?_eq_getElem hi2] at h1
        cases hcs : w.cells? 0 (a.add (i * 4)) 4 with
        | none => rw [hcs] at h1; simp at h1
        | some cs' =>
          rw [hcs] at h1
          obtain ⟨t, ta, tcap, e, hT⟩ := ih m2 (by omega) cs' _ h1
          obtain ⟨_, _, hcell⟩ := World.cells?_some hcs
          rw [e] at hcell
          exact ⟨(t, ta, tcap), ⟨hcell 0 (by decide), hcell 1 (by decide), hcell 2 (by decide), hcell 3 (by decide)⟩, hT⟩
      have inh : Inhabited (Tr × Option Addr × Nat) := ⟨(zeroT, none, 0)⟩
      obtain ⟨T, hT⟩ := Go.Deep.choose_lt each
      have hkl : ((List.range len).map fun i => (T i).1).length = len := by simp
      refine ⟨⟨k, m, s.data.toList, (List.range len).map fun i => (T i).1⟩, some a, cap, by simp [ba_of], some a, cap, by simp, by show List.length _ ≤ _; rw [hkl]; exact hl, hk, hm, wsz, by show List.length _ ≤ _; rw [hkl]; unfold maxLen at hcm; omega, fun i hi => ?_⟩
      have hi' : i < len := by rw [← hkl]; exact hi
      obtain ⟨⟨h0, h1, h2, h3⟩, h4⟩ := hT i hi'
      have hg : ((List.range len).map fun i => (T i).1).getD i zeroT = (T i).1 := by
        rw [List.getD_eq_getElem?_getD, List.getElem?_map, List.getElem?_range hi']; rfl
      have hspot : a.spot = none := by
        have := World.cell?_spot (hT 0 (by omega)).1.1
        simpa [Addr.add] using this
      obtain ⟨b, o, sp⟩ := a
      simp only at hspot
      subst hspot
      rw [addW, addW] at h0 h1 h2 h3
      refine ⟨b, o, _, _, _, _, rfl, trivial, h0, h1, h2, h3, ?_⟩
      show TrV w _ (n + 1) _ (((List.range len).map fun i => (T i).1).getD i zeroT)
      rw [hg]
      exact h4.mono (by omega)
theorem tre_of_Trod {v : Value} {d : DataW H} {p : List MemPlace} (h : DataW.Trod enc Try.prog w 0 (fun _ => true) true 69 v d p) : ∃ (t : Tr) (a : Option Addr) (cap : Nat), v = .agg #[.int .i64 t.kind, .int .i64 t.n, .string (ba t.name), .slice a t.kids.length cap] ∧ Tre w (fun _ => True) (.agg #[.int .i64 t.kind, .int .i64 t.n, .string (ba t.name), .slice a t.kids.length cap]) t := by
  obtain ⟨fuel, hf⟩ := h
  obtain ⟨t, a, cap, e, hT⟩ := tre_of_trod fuel _ _ hf
  refine ⟨t, a, cap, ?_, fuel + 1, hT⟩
  cases v with
  | agg cs =>
    have : cs.toList = [.int .i64 t.kind, .int .i64 t.n, .string (ba t.name), .slice a t.kids.length cap] := e
    rw [show cs = ⟨cs.toList⟩ from rfl, this]
  | _ => have := congrArg List.length e; simp [Value.cells] at this
end
end
section
open Go.ChangeShapes Go.WideShapes Go.ChangeAt Go.RowKit
set_option linter.unusedVariables false
section
variable {H : Type} {enc : TypeId × Value → H} {w : World}
theorem getD_range {α : Type} (len : Nat) (T : Nat → α) (i : Nat) (hi : i < len) (z : α) : ((List.range len).map T).getD i z = T i := by
  rw [List.getD_eq_getElem?_getD, List.getElem?_map, List.getElem?_range hi]; rfl
set_option maxRecDepth 100000 in
theorem exs_of_trod {fuel : Nat} {c : Value} {x : DataW H × List MemPlace} (h : DataW.trod enc Try.prog w 0 (fun _ => true) true fuel 34 [c] = some x) :
    ∃ (l : List Tr) (a : Option Addr) (cap : Nat), c = .slice a l.length cap ∧ ExsV w (fun _ => True) (.slice a l.length cap) l := by
  have hc : Try.prog.cellsOf 69 = 4 := by kernel_rfl
  rcases DataW.trod_slice Try.underlying34 h with ⟨e3, _⟩ | ⟨a, len, cap, elems, rest, m2, hm2, e3, _, _, hl, hcm, hel, hin, _⟩
  · simp at e3
    subst e3
    exact ⟨[], none, 0, rfl, ExsV.nil w _⟩
  · simp at e3
    subst e3
    rw [hc] at hin
    have each : ∀ i, i < len → ∃ tt : Tr × Option Addr × Nat, (w.cell? ((a.add (i * 4)).add 0) = some (.int .i64 tt.1.kind) ∧ w.cell? ((a.add (i * 4)).add 1) = some (.int .i64 tt.1.n) ∧ w.cell? ((a.add (i * 4)).add 2) = some (.string (ba tt.1.name)) ∧ w.cell? ((a.add (i * 4)).add 3) = some (.slice tt.2.1 tt.1.kids.length tt.2.2)) ∧ TrV w (fun _ => True) (m2 + 1) (.agg #[.int .i64 tt.1.kind, .int .i64 tt.1.n, .string (ba tt.1.name), .slice tt.2.1 tt.1.kids.length tt.2.2]) tt.1 := by
      intro i hi
      have h1 := hin i hi
      have hi2 : i < elems.length := by omega
      rw [List.getElem?_eq_getElem hi2] at h1
      cases hcs : w.cells? 0 (a.add (i * 4)) 4 with
      | none => rw [hcs] at h1; simp at h1
      | some cs' =>
        rw [hcs] at h1
        obtain ⟨t, ta, tcap, e, hT⟩ := tre_of_trod m2 cs' _ h1
        obtain ⟨_, _, hcell⟩ := World.cells?_some hcs
        rw [e] at hcell
        exact ⟨(t, ta, tcap), ⟨hcell 0 (by decide), hcell 1 (by decide), hcell 2 (by decide), hcell 3 (by decide)⟩, hT⟩
    have inh : Inhabited (Tr × Option Addr × Nat) := ⟨(zeroT, none, 0)⟩
    obtain ⟨T, hT⟩ := Go.Deep.choose_lt each
    have hkl : ((List.range len).map fun i => (T i).1).length = len := by simp
    refine ⟨(List.range len).map fun i => (T i).1, some a, cap, by rw [hkl], m2 + 2, some a, cap, rfl, by show List.length _ ≤ _; rw [hkl]; exact hl, inR_zero, inR_zero, Nat.zero_le _, by show List.length _ ≤ _; rw [hkl]; unfold maxLen at hcm; omega, fun i hi => ?_⟩
    have hi' : i < len := by rw [← hkl]; exact hi
    obtain ⟨⟨h0, h1, h2, h3⟩, h4⟩ := hT i hi'
    have hg := getD_range len (fun i => (T i).1) i hi' zeroT
    have hspot : a.spot = none := by
      have := World.cell?_spot (hT 0 (by omega)).1.1
      simpa [Addr.add] using this
    obtain ⟨b, o, sp⟩ := a
    simp only at hspot
    subst hspot
    rw [addW, addW] at h0 h1 h2 h3
    refine ⟨b, o, _, _, _, _, rfl, trivial, h0, h1, h2, h3, ?_⟩
    show TrV w _ (m2 + 1) _ (((List.range len).map fun i => (T i).1).getD i zeroT)
    rw [hg]
    exact h4
set_option maxRecDepth 100000 in
theorem fl_of_trod {fuel : Nat} {cs : List Value} {x : DataW H × List MemPlace} (h : DataW.trod enc Try.prog w 0 (fun _ => true) true fuel 39 cs = some x) :
    ∃ (f : Fl) (a : Option Addr) (cap : Nat), cs = [.int .i64 f.to, .slice a f.ifs.length cap] ∧ InR f.to ∧ ExsV w (fun _ => True) (.slice a f.ifs.length cap) f.ifs := by
  obtain ⟨xs, n, rfl, _, hlen, hxs, hf⟩ := DataW.trod_struct Try.underlying39 h
  have hc : Try.prog.cellsOf 39 = 2 := by kernel_rfl
  have hc3 : Try.prog.cellsOf 3 = 1 := by kernel_rfl
  have hc29 : Try.prog.cellsOf 34 = 1 := by kernel_rfl
  rw [hc] at hlen
  obtain ⟨c0, c1, rfl⟩ : ∃ c0 c1, cs = [c0, c1] := by
    match cs, hlen with
    | [c0, c1], _ => exact ⟨c0, c1, rfl⟩
  obtain ⟨y0, y1, rfl⟩ : ∃ y0 y1, xs = [y0, y1] := by
    have hxs2 : xs.length = 2 := by rw [hxs]; rfl
    match xs, hxs2 with
    | [y0, y1], _ => exact ⟨y0, y1, rfl⟩
  have f0 : DataW.trod enc Try.prog w 0 (fun _ => true) true n 3 ((List.drop 0 [c0, c1]).take (Try.prog.cellsOf 3)) = some y0 := hf 0 _ rfl
  have f1 : DataW.trod enc Try.prog w 0 (fun _ => true) true n 34 ((List.drop 1 [c0, c1]).take (Try.prog.cellsOf 34)) = some y1 := hf 1 _ rfl
  rw [hc3] at f0
  rw [hc29] at f1
  obtain ⟨k, e0, _, wk⟩ := DataW.trod_int Try.underlying3 (x := y0) f0
  simp at e0
  subst e0
  obtain ⟨l, a, cap, e1, hE⟩ := exs_of_trod (c := c1) f1
  exact ⟨⟨k, l⟩, a, cap, by rw [e1], in_of_wf wk, hE⟩
set_option maxRecDepth 100000 in
theorem fls_of_trod {fuel : Nat} {c : Value} {x : DataW H × List MemPlace} (h : DataW.trod enc Try.prog w 0 (fun _ => true) true fuel 35 [c] = some x) :
    ∃ (l : List Fl) (a : Option Addr) (cap : Nat), c = .slice a l.length cap ∧ FlsV w (fun _ => True) (.slice a l.length cap) l := by
  have hc : Try.prog.cellsOf 39 = 2 := by kernel_rfl
  rcases DataW.trod_slice Try.underlying35 h with ⟨e3, _⟩ | ⟨a, len, cap, elems, rest, m2, hm2, e3, _, _, hl, hcm, hel, hin, _⟩
  · simp at e3
    subst e3
    exact ⟨[], none, 0, rfl, FlsV.nil w _⟩
  · simp at e3
    subst e3
    rw [hc] at hin
    have each : ∀ i, i < len → ∃ tt : Fl × Option Addr × Nat, (w.cell? ((a.add (i * 2)).add 0) = some (.int .i64 tt.1.to) ∧ w.cell? ((a.add (i * 2)).add 1) = some (.slice tt.2.1 tt.1.ifs.length tt.2.2)) ∧ InR tt.1.to ∧ ExsV w (fun _ => True) (.slice tt.2.1 tt.1.ifs.length tt.2.2) tt.1.ifs := by
      intro i hi
      have h1 := hin i hi
      have hi2 : i < elems.length := by omega
      rw [List.getElem?_eq_getElem hi2] at h1
      cases hcs : w.cells? 0 (a.add (i * 2)) 2 with
      | none => rw [hcs] at h1; simp at h1
      | some cs' =>
        rw [hcs] at h1
        obtain ⟨t, ta, tcap, e, hi, hT⟩ := fl_of_trod (fuel := m2) (cs := cs') h1
        obtain ⟨_, _, hcell⟩ := World.cells?_some hcs
        rw [e] at hcell
        exact ⟨(t, ta, tcap), ⟨hcell 0 (by decide), hcell 1 (by decide)⟩, hi, hT⟩
    have inh : Inhabited (Fl × Option Addr × Nat) := ⟨(zeroF, none, 0)⟩
    obtain ⟨T, hT⟩ := Go.Deep.choose_lt each
    have hkl : ((List.range len).map fun i => (T i).1).length = len := by simp
    refine ⟨(List.range len).map fun i => (T i).1, some a, cap, by rw [hkl], some a, cap, rfl, by rw [hkl]; exact hl, by rw [hkl]; unfold maxLen at hcm; omega, fun i hi => ?_⟩
    have hi' : i < len := by rw [← hkl]; exact hi
    obtain ⟨⟨h0, h1⟩, h2, h3⟩ := hT i hi'
    rw [getD_range len (fun i => (T i).1) i hi' zeroF]
    have hspot : a.spot = none := by
      have := World.cell?_spot (hT 0 (by omega)).1.1
      simpa [Addr.add] using this
    obtain ⟨b, o, sp⟩ := a
    simp only at hspot
    subst hspot
    rw [addW, addW] at h0 h1
    exact ⟨b, o, _, _, rfl, trivial, ⟨h0, h1, h3, h2⟩⟩
set_option maxRecDepth 100000 in
theorem pl_of_trod {fuel : Nat} {cs : List Value} {x : DataW H × List MemPlace} (h : DataW.trod enc Try.prog w 0 (fun _ => true) true fuel 37 cs = some x) :
    ∃ (p : Pl) (aa : Option Addr) (ca : Nat) (ao : Option Addr) (co : Nat), cs = [.int .i64 p.kind, .string (ba p.name), .int .i64 p.n, .slice aa p.arg.length ca, .slice ao p.out.length co] ∧ PlV w (fun _ => True) p aa ca ao co := by
  obtain ⟨xs, n, rfl, _, hlen, hxs, hf⟩ := DataW.trod_struct Try.underlying37 h
  have hc : Try.prog.cellsOf 37 = 5 := by kernel_rfl
  have hc3 : Try.prog.cellsOf 3 = 1 := by kernel_rfl
  have hc9 : Try.prog.cellsOf 9 = 1 := by kernel_rfl
  have hc29 : Try.prog.cellsOf 34 = 1 := by kernel_rfl
  have hc55 : Try.prog.cellsOf 35 = 1 := by kernel_rfl
  rw [hc] at hlen
  obtain ⟨c0, c1, c2, c3, c4, rfl⟩ : ∃ c0 c1 c2 c3 c4, cs = [c0, c1, c2, c3, c4] := by
    match cs, hlen with
    | [c0, c1, c2, c3, c4], _ => exact ⟨c0, c1, c2, c3, c4, rfl⟩
  obtain ⟨y0, y1, y2, y3, y4, rfl⟩ : ∃ y0 y1 y2 y3 y4, xs = [y0, y1, y2, y3, y4] := by
    have hxs2 : xs.length = 5 := by rw [hxs]; rfl
    match xs, hxs2 with
    | [y0, y1, y2, y3, y4], _ => exact ⟨y0, y1, y2, y3, y4, rfl⟩
  have f0 : DataW.trod enc Try.prog w 0 (fun _ => true) true n 3 ((List.drop 0 [c0, c1, c2, c3, c4]).take (Try.prog.cellsOf 3)) = some y0 := hf 0 _ rfl
  have f1 : DataW.trod enc Try.prog w 0 (fun _ => true) true n 9 ((List.drop 1 [c0, c1, c2, c3, c4]).take (Try.prog.cellsOf 9)) = some y1 := hf 1 _ rfl
  have f2 : DataW.trod enc Try.prog w 0 (fun _ => true) true n 3 ((List.drop 2 [c0, c1, c2, c3, c4]).take (Try.prog.cellsOf 3)) = some y2 := hf 2 _ rfl
  have f3 : DataW.trod enc Try.prog w 0 (fun _ => true) true n 34 ((List.drop 3 [c0, c1, c2, c3, c4]).take (Try.prog.cellsOf 34)) = some y3 := hf 3 _ rfl
  have f4 : DataW.trod enc Try.prog w 0 (fun _ => true) true n 35 ((List.drop 4 [c0, c1, c2, c3, c4]).take (Try.prog.cellsOf 35)) = some y4 := hf 4 _ rfl
  rw [hc3] at f0 f2
  rw [hc9] at f1
  rw [hc29] at f3
  rw [hc55] at f4
  obtain ⟨k, e0, _, wk⟩ := DataW.trod_int Try.underlying3 (x := y0) f0
  obtain ⟨s, e1, _, ws⟩ := DataW.trod_string Try.underlying9 (x := y1) f1
  obtain ⟨m, e2, _, wm⟩ := DataW.trod_int Try.underlying3 (x := y2) f2
  simp at e0 e1 e2
  subst e0; subst e1; subst e2
  have wsz : s.data.toList.length ≤ 9223372036854775807 := by rw [Array.length_toList]; exact ws
  obtain ⟨l, a, cap, e3, hE⟩ := exs_of_trod (c := c3) f3
  obtain ⟨lo, ao, co, e4, hF⟩ := fls_of_trod (c := c4) f4
  exact ⟨⟨k, s.data.toList, m, l, lo⟩, a, cap, ao, co, by rw [e3, e4]; simp [ba_of], in_of_wf wk, in_of_wf wm, wsz, hE, hF⟩
set_option maxRecDepth 100000 in
theorem pls_of_trod {fuel : Nat} {c : Value} {x : DataW H × List MemPlace} (h : DataW.trod enc Try.prog w 0 (fun _ => true) true fuel 22 [c] = some x) :
    ∃ (l : List Pl) (a : Option Addr) (cap : Nat), c = .slice a l.length cap ∧ PlsV w (fun _ => True) (.slice a l.length cap) l := by
  have hc : Try.prog.cellsOf 37 = 5 := by kernel_rfl
  rcases DataW.trod_slice Try.underlying22 h with ⟨e3, _⟩ | ⟨a, len, cap, elems, rest, m2, hm2, e3, _, _, hl, hcm, hel, hin, _⟩
  · simp at e3
    subst e3
    exact ⟨[], none, 0, rfl, PlsV.nil w _⟩
  · simp at e3
    subst e3
    rw [hc] at hin
    have each : ∀ i, i < len → ∃ tt : Pl × (Option Addr × Nat) × Option Addr × Nat, (w.cell? ((a.add (i * 5)).add 0) = some (.int .i64 tt.1.kind) ∧ w.cell? ((a.add (i * 5)).add 1) = some (.string (ba tt.1.name)) ∧ w.cell? ((a.add (i * 5)).add 2) = some (.int .i64 tt.1.n) ∧ w.cell? ((a.add (i * 5)).add 3) = some (.slice tt.2.1.1 tt.1.arg.length tt.2.1.2) ∧ w.cell? ((a.add (i * 5)).add 4) = some (.slice tt.2.2.1 tt.1.out.length tt.2.2.2)) ∧ PlV w (fun _ => True) tt.1 tt.2.1.1 tt.2.1.2 tt.2.2.1 tt.2.2.2 := by
      intro i hi
      have h1 := hin i hi
      have hi2 : i < elems.length := by omega
      rw [List.getElem?_eq_getElem hi2] at h1
      cases hcs : w.cells? 0 (a.add (i * 5)) 5 with
      | none => rw [hcs] at h1; simp at h1
      | some cs' =>
        rw [hcs] at h1
        obtain ⟨t, aa, ca, ao, co, e, hT⟩ := pl_of_trod (fuel := m2) (cs := cs') h1
        obtain ⟨_, _, hcell⟩ := World.cells?_some hcs
        rw [e] at hcell
        exact ⟨(t, (aa, ca), ao, co), ⟨hcell 0 (by decide), hcell 1 (by decide), hcell 2 (by decide), hcell 3 (by decide), hcell 4 (by decide)⟩, hT⟩
    have inh : Inhabited (Pl × (Option Addr × Nat) × Option Addr × Nat) := ⟨(zeroP, (none, 0), none, 0)⟩
    obtain ⟨T, hT⟩ := Go.Deep.choose_lt each
    have hkl : ((List.range len).map fun i => (T i).1).length = len := by simp
    refine ⟨(List.range len).map fun i => (T i).1, some a, cap, by rw [hkl], some a, cap, rfl, by rw [hkl]; exact hl, by rw [hkl]; unfold maxLen at hcm; omega, fun i hi => ?_⟩
    have hi' : i < len := by rw [← hkl]; exact hi
    obtain ⟨⟨h0, h1, h2, h3, h4⟩, h5⟩ := hT i hi'
    rw [getD_range len (fun i => (T i).1) i hi' zeroP]
    have hspot : a.spot = none := by
      have := World.cell?_spot (hT 0 (by omega)).1.1
      simpa [Addr.add] using this
    obtain ⟨b, o, sp⟩ := a
    simp only at hspot
    subst hspot
    rw [addW, addW] at h0 h1 h2 h3 h4
    exact ⟨b, o, _, _, _, _, rfl, trivial, ⟨h0, h1, h2, h3, h4, h5⟩⟩
set_option maxRecDepth 100000 in
theorem df_of_trod {fuel : Nat} {cs : List Value} {x : DataW H × List MemPlace} (h : DataW.trod enc Try.prog w 0 (fun _ => true) true fuel 24 cs = some x) :
    ∃ (d : Df) (a : Option Addr) (cap : Nat), cs = [.string (ba d.id), .slice a d.places.length cap] ∧ DfV w (fun _ => True) d a cap := by
  obtain ⟨xs, n, rfl, _, hlen, hxs, hf⟩ := DataW.trod_struct Try.underlying24 h
  have hc : Try.prog.cellsOf 24 = 2 := by kernel_rfl
  have hc9 : Try.prog.cellsOf 9 = 1 := by kernel_rfl
  have hc22 : Try.prog.cellsOf 22 = 1 := by kernel_rfl
  rw [hc] at hlen
  obtain ⟨c0, c1, rfl⟩ : ∃ c0 c1, cs = [c0, c1] := by
    match cs, hlen with
    | [c0, c1], _ => exact ⟨c0, c1, rfl⟩
  obtain ⟨y0, y1, rfl⟩ : ∃ y0 y1, xs = [y0, y1] := by
    have hxs2 : xs.length = 2 := by rw [hxs]; rfl
    match xs, hxs2 with
    | [y0, y1], _ => exact ⟨y0, y1, rfl⟩
  have f0 : DataW.trod enc Try.prog w 0 (fun _ => true) true n 9 ((List.drop 0 [c0, c1]).take (Try.prog.cellsOf 9)) = some y0 := hf 0 _ rfl
  have f1 : DataW.trod enc Try.prog w 0 (fun _ => true) true n 22 ((List.drop 1 [c0, c1]).take (Try.prog.cellsOf 22)) = some y1 := hf 1 _ rfl
  rw [hc9] at f0
  rw [hc22] at f1
  obtain ⟨s, e0, _, ws⟩ := DataW.trod_string Try.underlying9 (x := y0) f0
  simp at e0
  subst e0
  have wsz : s.data.toList.length ≤ 9223372036854775807 := by rw [Array.length_toList]; exact ws
  obtain ⟨l, a, cap, e1, hE⟩ := pls_of_trod (c := c1) f1
  exact ⟨⟨s.data.toList, l⟩, a, cap, by rw [e1]; simp [ba_of], wsz, hE⟩
theorem df_of_Trod {v : Value} {d : DataW H} {p : List MemPlace} (h : DataW.Trod enc Try.prog w 0 (fun _ => true) true 24 v d p) : ∃ (d : Df) (a : Option Addr) (cap : Nat), v = dfA d a cap ∧ DfV w (fun _ => True) d a cap := by
  obtain ⟨fuel, hf⟩ := h
  obtain ⟨t, a, cap, e, hT⟩ := df_of_trod hf
  refine ⟨t, a, cap, ?_, hT⟩
  cases v with
  | agg cs =>
    have : cs.toList = [.string (ba t.id), .slice a t.places.length cap] := e
    rw [show cs = ⟨cs.toList⟩ from rfl, this]; rfl
  | _ => have := congrArg List.length e; simp [Value.cells] at this
theorem bytes_of_Trod {v : Value} {d : DataW H} {p : List MemPlace} (h : DataW.Trod enc Try.prog w 0 (fun _ => true) true 104 v d p) (hv : ∃ a n c, v = .slice a n c) : ∃ l, V.ReadsV w v l := by
  obtain ⟨a, n, c, rfl⟩ := hv
  obtain ⟨fuel, hf⟩ := h
  rcases open_ints Try.underlying104 Try.underlying5 (by kernel_rfl) hf with ⟨hcs, _⟩ | ⟨x, l, cc, zs, hcs, _, hl, hm, hz, hx, hcell, hwz⟩
  · simp [Value.cells] at hcs
    obtain ⟨rfl, rfl, rfl⟩ := hcs
    exact ⟨[], V.ReadsV.nil w⟩
  · simp [Value.cells] at hcs
    obtain ⟨rfl, rfl, rfl⟩ := hcs
    obtain ⟨lb, hlb, rb⟩ := V.readsV_of (w := w) (a := some x) (len := n) (cap := c) (zs := zs) (.inr ⟨_, rfl, hl, hm, by simpa using hz, hcell, hwz⟩)
    exact ⟨lb, rb⟩
end
end
section
open Go.RowKit
set_option linter.unusedVariables false

/-- What stands behind the first call. -/
structure Ck1 (w w1 : World) (d : Df) (a : Option Addr) (c : Nat) : Prop where
  bel : Below w.heap.size w w1
  df : DfV w1 (fun _ => True) d a c
  cell : Cell2 w1 w.heap.size (.string (ba d.id)) (.slice a d.places.length c)
theorem Ck1.below {w w1 w2 : World} {d : Df} {a : Option Addr} {c : Nat} (h : Ck1 w w1 d a c) (hb : Below w1.heap.size w1 w2) : Ck1 w w2 d a c :=
  ⟨h.bel.trans (hb.mono h.bel.size), h.df.kept (kept_below hb), h.cell.below hb⟩
end
end Go.Proofs.Ytlaiacjlphjmlaa
