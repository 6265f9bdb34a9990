/-
  The document's Weight; the law's light: contracts: some number is told.
-/
import Derived.Test.YtjafjheffbbkmaaChD
import Derived.Test.YtjafjheffbbkmaaWeigh
namespace Go.Proofs.Ytjafjheffbbkmaa
open Go.RowKit
set_option linter.unusedVariables false

set_option maxRecDepth 100000 in
theorem weightT_any (P : Nat → Prop) (t : Tr) (k n : Int) (s : ByteArray) (a : Option Addr) (l c : Nat) (most : Int) (w : World) (hm : InR most) (hT : Tre w P (.agg #[.int .i64 k, .int .i64 n, .string s, .slice a l c]) t) : Calls Try.prog 13 #[.agg #[.int .i64 k, .int .i64 n, .string s, .slice a l c], .int .i64 most] w (Numb w) := by
  have HW : Hid (∀ o, Calls Try.prog 34 #[.agg #[.int .i64 k, .int .i64 n, .string s, .slice a l c], .int .i64 most, .int .i64 30] (w.alloc o) (Numb (w.alloc o))) := fun o => weigh_any t P _ _ most 30 hm ⟨by decide, by decide⟩ (hT.alloc o)
  clear hT hm
  go_enter Try.func13, Try.ntmps13
  go_wp2_with (go_at_call 34; refine (HW.out _).mono ?_; rintro e w1 ⟨x, rfl, hx, q⟩; have HX : Hid (InR x ∧ Below w.heap.size w w1) := ⟨hx, below_new q⟩; clear hx q)
  go_ret
  exact ⟨x, rfl, HX.out.1, HX.out.2⟩
/-- A number in its bounds. -/
def IsN (v : Value) : Prop := ∃ x : Int, v = .int .i64 x ∧ -9223372036854775808 ≤ x ∧ x ≤ 9223372036854775807
theorem isN_wrap (x : Int) : IsN (.int .i64 (wrap64 x)) := ⟨_, rfl, (wrap64_in x).1, (wrap64_in x).2⟩
set_option maxRecDepth 100000 in
set_option maxHeartbeats 2000000 in
theorem Weight_any (P : Nat → Prop) (d : Df) (a : Option Addr) (c : Nat) (w : World) (hd : DfV w P d a c) : Calls Try.prog 27 #[.agg #[.string (ba d.id), .slice a d.places.length c], .int .i64 800] w (Numb w) := by
  obtain ⟨hc, hl⟩ := hd.places.cap
  have hsz : (ba d.id).size ≤ 9223372036854775807 := hd.id
  have HP : Hid (∀ i w2, i < d.places.length → Below w.heap.size w w2 → ∃ b o aa ca ao co, a = some ⟨b, o, none⟩ ∧ PlAt w2 P b (o + i * 5) (d.places.getD i zeroP) aa ca ao co) := fun i w2 hi hb => by
    obtain ⟨b, o, aa, ca, ao, co, h1, h2, h3⟩ := hd.places.at i hi
    exact ⟨b, o, aa, ca, ao, co, h1, h3.kept h2 (kept_below hb)⟩
  have HWt : Hid (∀ t k n s a l c w, Tre w P (.agg #[.int .i64 k, .int .i64 n, .string s, .slice a l c]) t → Calls Try.prog 13 #[.agg #[.int .i64 k, .int .i64 n, .string s, .slice a l c], .int .i64 800] w (Numb w)) := fun t k n s a l c w h => weightT_any P t k n s a l c 800 w ⟨by decide, by decide⟩ h
  clear hd
  generalize ba d.id = ds at *
  generalize d.places = pl at *
  go_enter Try.func27, Try.ntmps27
  go_wp2
  go_loopw [5, 6] (fun n i wr => IsN n ∧ ∃ (j : Nat), j ≤ pl.length ∧ i = .int .i64 j ∧ Hid (Below w.heap.size w wr ∧ Cell2 wr w.heap.size (.string ds) (.slice a pl.length c))) (fun _ i _ => pl.length - (intOf i).toNat)
  case atStart => exact ⟨⟨_, rfl, by omega, by omega⟩, 0, Nat.zero_le _, rfl, (Below.refl _ _).alloc (Nat.le_refl _) _, Cell2.new w _ _ 24⟩
  case round =>
    obtain ⟨⟨x, rfl, hx1, hx2⟩, j, hj, rfl, HR⟩ := hrel
    obtain ⟨q0, q1, q2⟩ := HR.out.2
    by_cases hcond : j < pl.length ∧ x ≤ 800
    case neg =>
      have hor : ¬ j < pl.length ∨ (j < pl.length ∧ ¬ x ≤ 800) := by omega
      have HB3 : Hid (Below w.heap.size w wr) := HR.out.1
      clear HR hcond
      rcases hor with hn | ⟨hlt, hn⟩
      all_goals (
        go_wp2_with fail
        go_ret
        exact ⟨x, rfl, ⟨hx1, hx2⟩, HB3.out⟩)
    obtain ⟨hlt, hxm⟩ := hcond
    obtain ⟨b, o, aa, ca, ao, co, rfl, hPA⟩ := HP.out j wr hlt HR.out.1
    have HV : Hid (PlV wr P (pl.getD j zeroP) aa ca ao co) := hPA.val
    obtain ⟨p0, p1, p2, p3, p4, _⟩ := hPA
    have hps : (ba (pl.getD j zeroP).name).size ≤ 9223372036854775807 := HV.out.name
    have hla := HV.out.arg.cap
    have hlo := HV.out.out.cap
    obtain ⟨hla1, hla2⟩ := hla
    obtain ⟨hlo1, hlo2⟩ := hlo
    have hbl : b < wr.heap.size := World.block_lt_of_cell? wr _ p0
    have hwl : w.heap.size < wr.heap.size := HR.out.2.lt
    have HA : Hid (∀ i wx, i < (pl.getD j zeroP).arg.length → Below wr.heap.size wr wx → ∃ g o ka kc, KidAt wx P aa i ((pl.getD j zeroP).arg.getD i zeroT) g o ka kc) := fun i wx hi hb => by
      obtain ⟨a', c', e, _, _, q⟩ := (HV.out.arg.kept (kept_below hb)).form
      simp only [Value.slice.injEq] at e
      obtain ⟨g, o, ka, kc, q⟩ := q i hi
      rw [← e.1] at q
      exact ⟨g, o, ka, kc, q⟩
    have HO : Hid (∀ i wx, i < (pl.getD j zeroP).out.length → Below wr.heap.size wr wx → ∃ g o ka kc, ao = some ⟨g, o, none⟩ ∧ FlAt wx P g (o + i * 2) ((pl.getD j zeroP).out.getD i zeroF) ka kc) := fun i wx hi hb => by
      obtain ⟨g, o, ka, kc, e, _, q⟩ := (HV.out.out.kept (kept_below hb)).at i hi
      exact ⟨g, o, ka, kc, e, q⟩
    clear HV
    generalize (pl.getD j zeroP).arg = par at *
    generalize (pl.getD j zeroP).out = pou at *
    generalize (pl.getD j zeroP).kind = pk at *
    generalize (pl.getD j zeroP).n = pn at *
    generalize ba (pl.getD j zeroP).name = ps at *
    obtain ⟨w0, hw0⟩ : ∃ w0, w0 = wr := ⟨_, rfl⟩
    subst hw0
    have H0 : Hid (Below w0.heap.size w0 (w0.alloc (.cells #[.int .i64 pk, .string ps, .int .i64 pn, .slice aa par.length ca, .slice ao pou.length co] 57)) ∧ Cell5 (w0.alloc (.cells #[.int .i64 pk, .string ps, .int .i64 pn, .slice aa par.length ca, .slice ao pou.length co] 57)) w0.heap.size (.int .i64 pk) (.string ps) (.int .i64 pn) (.slice aa par.length ca) (.slice ao pou.length co)) := ⟨(Below.refl _ _).alloc (Nat.le_refl _) _, Cell5.new w0 _ _ _ _ _ 57⟩
    go_wp2_with fail
    go_loopw [5, 8] (fun n k wr => IsN n ∧ ∃ (i : Nat), i ≤ par.length ∧ k = .int .i64 i ∧ Hid (Below w0.heap.size w0 wr ∧ Cell5 wr w0.heap.size (.int .i64 pk) (.string ps) (.int .i64 pn) (.slice aa par.length ca) (.slice ao pou.length co))) (fun _ k _ => par.length - (intOf k).toNat)
    case atStart => exact ⟨isN_wrap _, 0, Nat.zero_le _, rfl, H0.out⟩
    case round =>
      obtain ⟨⟨x1, rfl, hy1, hy2⟩, i1, hi1, rfl, HR1⟩ := hrel
      obtain ⟨b0, b1, b2, b3, b4, b5⟩ := HR1.out.2
      by_cases hcond : i1 < par.length ∧ x1 ≤ 800
      case pos =>
        obtain ⟨hlt1, hxm1⟩ := hcond
        obtain ⟨g, og, ka, kc, hKA⟩ := HA.out i1 wr hlt1 HR1.out.1
        obtain ⟨rfl, k0, k1, k2, k3, hT⟩ := hKA
        have HC : Hid (Calls Try.prog 13 #[.agg #[.int .i64 (par.getD i1 zeroT).kind, .int .i64 (par.getD i1 zeroT).n, .string (ba (par.getD i1 zeroT).name), .slice ka (par.getD i1 zeroT).kids.length kc], .int .i64 800] wr (Numb wr)) := HWt.out _ _ _ _ _ _ _ _ hT
        clear hT
        generalize (par.getD i1 zeroT).kind = yk at *
        generalize (par.getD i1 zeroT).n = yn at *
        generalize ba (par.getD i1 zeroT).name = ys at *
        generalize (par.getD i1 zeroT).kids.length = yl at *
        go_wp2_with (go_at_call 13; have := HC; refine HC.out.mono ?_; rintro e w3 ⟨z, rfl, hz, HB⟩; have HB3 : Hid (Below w0.heap.size w0 w3 ∧ Cell5 w3 w0.heap.size (.int .i64 pk) (.string ps) (.int .i64 pn) (.slice (some ⟨g, og, none⟩) par.length ca) (.slice ao pou.length co)) := ⟨HR1.out.1.trans (HB.mono HR1.out.1.size), HR1.out.2.below HB⟩; clear HB HC)
        go_roundw
        case rel => exact ⟨isN_wrap _, i1 + 1, by omega, by go_num, HB3.out⟩
        case measure => simp [intOf]; omega
      case neg =>
        have hor : ¬ i1 < par.length ∨ (i1 < par.length ∧ ¬ x1 ≤ 800) := by omega
        have H1 : Hid (Below w0.heap.size w0 wr ∧ Cell5 wr w0.heap.size (.int .i64 pk) (.string ps) (.int .i64 pn) (.slice aa par.length ca) (.slice ao pou.length co)) := HR1.out
        clear HR1 hcond HA
        obtain ⟨wq, hwq⟩ : ∃ w1, w1 = wr := ⟨_, rfl⟩
        subst hwq
        rcases hor with hn | ⟨hlt1, hn⟩
        all_goals (
          go_wp2_with fail
          clear b0 b1 b2 b3 b4 b5
          go_loopw [5, 9] (fun n k wr => IsN n ∧ ∃ (i : Nat), i ≤ pou.length ∧ k = .int .i64 i ∧ Hid (Below w0.heap.size w0 wr ∧ Cell5 wr w0.heap.size (.int .i64 pk) (.string ps) (.int .i64 pn) (.slice aa par.length ca) (.slice ao pou.length co))) (fun _ k _ => pou.length - (intOf k).toNat)
          case atStart => exact ⟨⟨_, rfl, hy1, hy2⟩, 0, Nat.zero_le _, rfl, H1.out⟩
          case round =>
            obtain ⟨⟨x2, rfl, hz1, hz2⟩, i2, hi2, rfl, HR2⟩ := hrel
            obtain ⟨b0, b1, b2, b3, b4, b5⟩ := HR2.out.2
            by_cases hcond : i2 < pou.length ∧ x2 ≤ 800
            case neg =>
              have hor : ¬ i2 < pou.length ∨ (i2 < pou.length ∧ ¬ x2 ≤ 800) := by omega
              have HB4 : Hid (Below w.heap.size w wr ∧ Cell2 wr w.heap.size (.string ds) (.slice (some ⟨b, o, none⟩) pl.length c)) := ⟨HR.out.1.trans (HR2.out.1.mono HR.out.1.size), HR.out.2.below HR2.out.1⟩
              clear HR2 hcond
              rcases hor with hn2 | ⟨hlt2, hn2⟩
              all_goals (
                go_wp2_with fail
                go_roundw
                case rel => exact ⟨⟨_, rfl, hz1, hz2⟩, j + 1, by omega, by go_num, HB4.out⟩
                case measure => simp [intOf]; omega)
            case pos =>
              obtain ⟨hlt2, hxm2⟩ := hcond
              have H2 : Hid (Below w0.heap.size w0 wr ∧ Cell5 wr w0.heap.size (.int .i64 pk) (.string ps) (.int .i64 pn) (.slice aa par.length ca) (.slice ao pou.length co)) := HR2.out
              clear HR2
              obtain ⟨wp, hwp⟩ : ∃ w1, w1 = wr := ⟨_, rfl⟩
              subst hwp
              have HO2 : Hid (∀ wx, Below w0.heap.size w0 wx → ∃ g o ka kc, ao = some ⟨g, o, none⟩ ∧ FlAt wx P g (o + i2 * 2) (pou.getD i2 zeroF) ka kc) := fun wx hb => HO.out i2 wx hlt2 hb
              clear HO
              generalize pou.getD i2 zeroF = fl2 at *
              go_wp2_with fail
              clear b0 b1 b2 b3 b4 b5
              go_loopw [5, 10] (fun n k wr => IsN n ∧ ∃ (i : Nat), i ≤ fl2.ifs.length ∧ k = .int .i64 i ∧ Hid (Below w0.heap.size w0 wr ∧ Cell5 wr w0.heap.size (.int .i64 pk) (.string ps) (.int .i64 pn) (.slice aa par.length ca) (.slice ao pou.length co))) (fun _ k _ => fl2.ifs.length - (intOf k).toNat)
              case atStart => exact ⟨⟨_, rfl, hz1, hz2⟩, 0, Nat.zero_le _, rfl, H2.out⟩
              case round =>
                obtain ⟨⟨x3, rfl, hv1, hv2⟩, i3, hi3, rfl, HR3⟩ := hrel
                obtain ⟨b0, b1, b2, b3, b4, b5⟩ := HR3.out.2
                obtain ⟨fg, fo, fa, fc, rfl, hFA⟩ := HO2.out wr HR3.out.1
                obtain ⟨f0, f1, hE, _⟩ := hFA
                obtain ⟨hfc1, hfc2⟩ := hE.cap
                by_cases hcond : i3 < fl2.ifs.length ∧ x3 ≤ 800
                case neg =>
                  have hor : ¬ i3 < fl2.ifs.length ∨ (i3 < fl2.ifs.length ∧ ¬ x3 ≤ 800) := by omega
                  have HB4 : Hid (Below w0.heap.size w0 wr ∧ Cell5 wr w0.heap.size (.int .i64 pk) (.string ps) (.int .i64 pn) (.slice aa par.length ca) (.slice (some ⟨fg, fo, none⟩) pou.length co)) := HR3.out
                  clear HR3 hcond hE
                  rcases hor with hn3 | ⟨hlt3, hn3⟩
                  all_goals (
                    go_wp2_with fail
                    go_roundw
                    case rel => exact ⟨⟨_, rfl, hv1, hv2⟩, i2 + 1, by omega, by go_num, HB4.out⟩
                    case measure => simp [intOf]; omega)
                case pos =>
                  obtain ⟨hlt3, hxm3⟩ := hcond
                  obtain ⟨a', c', e', _, _, hKs⟩ := hE.form
                  obtain ⟨g, og, ka, kc, hKA⟩ := hKs i3 hlt3
                  simp only [Value.slice.injEq] at e'
                  rw [← e'.1] at hKA
                  obtain ⟨rfl, k0, k1, k2, k3, hT⟩ := hKA
                  clear e' hKs hE
                  generalize fl2.ifs.getD i3 zeroT = tr3 at *
                  have HC : Hid (Calls Try.prog 13 #[.agg #[.int .i64 tr3.kind, .int .i64 tr3.n, .string (ba tr3.name), .slice ka tr3.kids.length kc], .int .i64 800] wr (Numb wr)) := HWt.out _ _ _ _ _ _ _ _ hT
                  clear hT
                  generalize tr3.kind = yk at *
                  generalize tr3.n = yn at *
                  generalize ba tr3.name = ys at *
                  generalize tr3.kids.length = yl at *
                  go_wp2_with (go_at_call 13; have := HC; refine HC.out.mono ?_; rintro e w3 ⟨z, rfl, hz, HB⟩; have HB3 : Hid (Below w0.heap.size w0 w3 ∧ Cell5 w3 w0.heap.size (.int .i64 pk) (.string ps) (.int .i64 pn) (.slice aa par.length ca) (.slice (some ⟨fg, fo, none⟩) pou.length co)) := ⟨HR3.out.1.trans (HB.mono HR3.out.1.size), HR3.out.2.below HB⟩; clear HB HC)
                  go_roundw
                  case rel => exact ⟨isN_wrap _, i3 + 1, by omega, by go_num, HB3.out⟩
                  case measure => simp [intOf]; omega)
set_option maxRecDepth 100000 in
theorem light_any (P : Nat → Prop) (d : Df) (a : Option Addr) (c : Nat) (w : World) (hd : DfV w P d a c) : Calls Try.prog 9 #[.agg #[.string (ba d.id), .slice a d.places.length c]] w fun e w' => (∃ b, e = .returned (.bool b)) ∧ Below w.heap.size w w' := by
  have HW : Hid (∀ o, Calls Try.prog 27 #[.agg #[.string (ba d.id), .slice a d.places.length c], .int .i64 800] (w.alloc o) (Numb (w.alloc o))) := fun o => Weight_any P d a c _ (hd.kept (kept_below ((Below.refl _ _).alloc (Nat.le_refl _) o)))
  clear hd
  generalize ba d.id = ds at *
  generalize d.places.length = pn at *
  go_enter Try.func9, Try.ntmps9
  go_wp2_with (go_at_call 27; refine (HW.out _).mono ?_; rintro e w1 ⟨x, rfl, hx, q⟩; have HX : Hid (Below w.heap.size w w1) := below_new q; clear q)
  go_ret
  exact ⟨⟨_, rfl⟩, HX.out⟩
end Go.Proofs.Ytjafjheffbbkmaa
