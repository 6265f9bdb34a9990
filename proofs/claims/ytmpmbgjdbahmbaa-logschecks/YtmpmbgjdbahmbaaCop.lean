/-
  The program's copies: its contract.
-/
import Derived.Test.YtmpmbgjdbahmbaaSmc
namespace Go.Proofs.Ytmpmbgjdbahmbaa
open Go.RowKit
set_option linter.unusedVariables false

/-- So many at most, none of them long. -/
def Small (es : List En) : Prop := es.length ≤ 1000 ∧ ∀ j, j < es.length → (es.getD j zE).2.length ≤ 100000
def sumL (ls : List (List En)) (i : Nat) : Nat := ((ls.take i).map List.length).sum
theorem sumL_succ {ls : List (List En)} {i : Nat} (h : i < ls.length) : sumL ls (i + 1) = sumL ls i + (ls.getD i []).length := by
  unfold sumL
  rw [List.take_succ_eq_append_getElem h, List.map_append, List.sum_append]
  simp [List.getD_eq_getElem?_getD, h]
theorem sumL_all (ls : List (List En)) : sumL ls ls.length = ls.flatten.length := by
  unfold sumL
  rw [List.take_length, List.length_flatten]
theorem sumL_le (ls : List (List En)) (hs : ∀ i, i < ls.length → Small (ls.getD i [])) : ∀ i, i ≤ ls.length → sumL ls i ≤ 1000 * i
  | 0, _ => by simp [sumL]
  | i + 1, h => by
    rw [sumL_succ (by omega)]
    have := sumL_le ls hs i (by omega)
    have := (hs i (by omega)).1
    omega
theorem flat_succ {ls : List (List En)} {i : Nat} (h : i < ls.length) : (ls.take (i + 1)).flatten = (ls.take i).flatten ++ ls.getD i [] := by
  rw [List.take_succ_eq_append_getElem h, List.flatten_append]
  simp [List.getD_eq_getElem?_getD, h]
theorem take_succ_en {es : List En} {i : Nat} (h : i < es.length) : es.take (i + 1) = es.take i ++ [es.getD i zE] := by
  rw [List.take_succ_eq_append_getElem h]
  simp [List.getD_eq_getElem?_getD, h]
/-- What copies holds at hand in its rounds. -/
structure Cp (w0 w : World) (v : Value) (ts : List En) : Prop where
  b : Below w0.heap.size w0 w
  g : Gz w w0.heap.size (fun g => w0.heap.size ≤ g) v ts
theorem Cp.below {w0 w w' : World} {v : Value} {ts : List En} (h : Cp w0 w v ts) (hb : Below w.heap.size w w') : Cp w0 w' v ts := ⟨h.b.trans (hb.mono h.b.size), h.g.below hb⟩
/-- One more. -/
theorem Cp.add {w0 w w' : World} {v v' : Value} {ts l : List En} (h : Cp w0 w v ts) (hg : w.grownBy w' v.ownBlock) (h2 : Gz w' w0.heap.size (fun g => w0.heap.size ≤ g) v' (ts ++ l)) : Cp w0 w' v' (ts ++ l) := ⟨h.b.grown hg h.b.size fun k hk => (h.g.own k hk).1, h2⟩
theorem entry_new {w0 w w2 : World} {v va : Value} {ts : List En} {t : Int} {l : BB} (h : Cp w0 w va ts) (hi : InR t) (ho : Owns w2 w.heap.size v l) (hb : Below w.heap.size w w2) : ∃ a c, v = .slice a l.length c ∧ Cp w0 w2 va ts ∧ EnsV (w2.alloc (.cells #[.int .i64 t, .slice a l.length c] 45)) (fun g => w.heap.size ≤ g) (some ⟨w2.heap.size, 0, none⟩) 1 [(t, l)] ∧ ∀ g, w.heap.size ≤ g → w0.heap.size ≤ g ∧ va.ownBlock ≠ some g := by
  obtain ⟨a, c, rfl, q⟩ := own_shape ho
  have hs := h.b.size
  exact ⟨a, c, rfl, h.below hb, EnsV.one rfl hb.size ⟨a, c, rfl, rfl, ReadsV.of_own ho, fun _ x hx => q x hx, hi⟩, fun g hg => ⟨by omega, fun e => by have := (h.g.own g e).2; omega⟩⟩
set_option maxRecDepth 100000 in
set_option maxHeartbeats 1200000 in
theorem copies_any (a : Option Addr) (c : Nat) (ls : List (List En)) (w : World) (hL : LsV w a c ls) (hn : ls.length ≤ 2) (hs : ∀ i, i < ls.length → Small (ls.getD i [])) : Calls Try.prog 39 #[.slice a ls.length c] w fun e w' => ∃ ra rc, e = .returned (.slice ra ls.flatten.length rc) ∧ EnsV w' (fun g => w.heap.size ≤ g) ra rc ls.flatten ∧ Below w.heap.size w w' := by
  have h1 := hL.1
  have h2 := hL.2.1
  have HC : Hid (∀ i, i < ls.length → ∃ b o ka kc, a = some ⟨b, o, none⟩ ∧ w.cell? ⟨b, o + i, none⟩ = some (.slice ka (ls.getD i []).length kc) ∧ EnsV w (fun _ => True) ka kc (ls.getD i []) ∧ b < w.heap.size) := fun i hi => by
    obtain ⟨b, o, ka, kc, q1, q2, q3⟩ := hL.2.2 i hi
    exact ⟨b, o, ka, kc, q1, q2, q3, World.block_lt_of_cell? _ _ q2⟩
  have HS : Hid (∀ i, i < ls.length → Small (ls.getD i [])) := hs
  have HU : Hid (∀ i, i < ls.length → sumL ls (i + 1) = sumL ls i + (ls.getD i []).length) := fun i hi => sumL_succ hi
  have HT : Hid (sumL ls ls.length = ls.flatten.length) := sumL_all ls
  have HL : Hid (∀ i, i ≤ ls.length → sumL ls i ≤ 1000 * i) := sumL_le ls hs
  have HFl : Hid (∀ i, i < ls.length → (ls.take (i + 1)).flatten = (ls.take i).flatten ++ ls.getD i []) := fun i hi => flat_succ hi
  have HFa : Hid (∀ n, n = ls.length → (ls.take n).flatten = ls.flatten) := fun n hn => by rw [hn, List.take_length]
  clear hL hs
  generalize hn2 : ls.length = n at *
  go_enter Try.func39, Try.ntmps39
  go_wp2
  go_loopw [3, 13] (fun x y wr => ∃ (i s : Nat), i ≤ n ∧ x = .int .i64 s ∧ y = .int .i64 i ∧ w = wr ∧ s ≤ 2000 ∧ Hid (s = sumL ls i)) (fun x y _ => n - (intOf y).toNat)
  case atStart => exact ⟨0, 0, Nat.zero_le _, rfl, rfl, rfl, by decide, by simp [sumL, Hid]⟩
  case round =>
    obtain ⟨i, s, hi, rfl, rfl, rfl, hs, HR⟩ := hrel
    by_cases hlt : i < n
    · obtain ⟨b, o, ka, kc, rfl, x1, x2, x3⟩ := HC.out i hlt
      have HE : Hid (s + (ls.getD i []).length = sumL ls (i + 1) ∧ s + (ls.getD i []).length ≤ 2000) := by
        have e1 := HU.out i hlt
        have e2 := HL.out (i + 1) (by omega)
        have e3 := HR.out
        exact ⟨by omega, by omega⟩
      have HZ : Hid ((ls.getD i []).length ≤ 1000) := (HS.out i hlt).1
      have hz := HZ.out
      have hle := x2.cap1
      clear x2
      generalize (ls.getD i []).length = k at *
      go_wp2
      go_roundw
      case rel => exact ⟨i + 1, s + k, by omega, by go_num, by go_num, trivial, HE.out.2, HE.out.1⟩
      case measure => simp [intOf]; omega
    · have e0 : i = n := by omega
      have HE : Hid (s = ls.flatten.length) := by
        have e3 := HR.out
        rw [e0, HT.out] at e3
        exact e3
      by_cases hz : s = 0
      · have hfl : ls.flatten = [] := List.length_eq_zero_iff.1 (by rw [← HE.out]; exact hz)
        have HFL : Hid (ls.flatten = []) := hfl
        subst hz
        clear HE HR hfl e0
        go_wp2
        go_ret
        exact ⟨none, 0, by rw [HFL.out]; rfl, by rw [HFL.out]; exact EnsV.nil _ _, Below.refl _ _⟩
      · obtain ⟨wm, hm, hgz, hgr⟩ := Gz.made w w.heap.size s (fun g => w.heap.size ≤ g) (by omega) (Nat.le_refl _)
        have hm2 := hm .i64 .i64
        have HP : Hid (Cp w wm (.slice (some ⟨w.heap.size, 0, none⟩) 0 s) []) := ⟨(Below.refl _ _).grown hgr (Nat.le_refl _) fun k hk => (by cases hk), hgz⟩
        have hz2 : ((s : Int) == 0) = false := beq_eq_false_iff_ne.2 (by omega)
        clear hm hgz hgr HR e0
        go_wp2
        go_loopw [6, 28] (fun x y wr => ∃ (i : Nat), i ≤ n ∧ y = .int .i64 i ∧ Hid (Cp w wr x (ls.take i).flatten ∧ (ls.take i).flatten.length ≤ 1000 * i)) (fun x y _ => n - (intOf y).toNat)
        case atStart => exact ⟨0, Nat.zero_le _, rfl, HP.out, Nat.zero_le _⟩
        case round =>
          obtain ⟨i, hi, rfl, HR⟩ := hrel
          by_cases hlt : i < n
          · obtain ⟨b, o, ka, kc, rfl, x1, x2, x3⟩ := HC.out i hlt
            have HX : Hid (EnsV w (fun _ => True) ka kc (ls.getD i [])) := x2
            have x4 := (cell_kept (HR.out.1.b.block b x3) (o + i)).trans x1
            have hb4 := World.block_lt_of_cell? _ _ x4
            have hle := x2.cap1
            have hle2 := x2.cap2
            have HF : Hid ((ls.take (i + 1)).flatten = (ls.take i).flatten ++ ls.getD i []) := HFl.out i hlt
            have HZ := HS.out i hlt
            have hk := HZ.1
            have HZ2 : Hid (∀ j, j < (ls.getD i []).length → ((ls.getD i []).getD j zE).2.length ≤ 100000) := HZ.2
            clear HZ x2
            generalize hls : ls.getD i [] = L at *
            generalize hfl : (ls.take i).flatten = ts at *
            generalize hkn : L.length = k at *
            go_wp2
            go_loopw [6, 34] (fun x y wr => ∃ (j : Nat), j ≤ k ∧ y = .int .i64 j ∧ Hid (Cp w wr x (ts ++ L.take j))) (fun x y _ => k - (intOf y).toNat)
            case atStart => exact ⟨0, Nat.zero_le _, rfl, by rw [List.take_zero, List.append_nil]; exact HR.out.1⟩
            case round =>
              have HO := HR
              clear HR
              obtain ⟨j, hj, rfl, HR⟩ := hrel
              by_cases hjl : j < k
              · obtain ⟨g, o3, ja, jc, hka, y1, y2, y3, y4, y5, _⟩ := (HX.out.below HR.out.b).at_ (show j < L.length by omega)
                subst hka
                have HT3 : Hid (L.take (j + 1) = L.take j ++ [(tOf L j, (L.getD j zE).2)]) := take_succ_en (by omega)
                have HRd : Hid (ReadsV wr (.slice ja (L.getD j zE).2.length jc) (L.getD j zE).2) := y3
                have hdl : (L.getD j zE).2.length ≤ 100000 := HZ2.out j (by omega)
                have hIn : Hid (InR (tOf L j)) := y4
                have HP3 : Hid (Cp w wr u6 (ts ++ L.take j)) := HR.out
                have HLn : Hid ((ts ++ L.take j).length ≤ 3000) := by
                  have := HO.out.2
                  show _ ≤ _
                  rw [List.length_append, List.length_take]; omega
                clear HR HO y3 y4
                generalize hgd : (L.getD j zE).2 = dt at *
                generalize tOf L j = t at *
                have HT4 : Hid (ts ++ L.take (j + 1) = (ts ++ L.take j) ++ [(t, dt)]) := by show _ = _; rw [HT3.out, List.append_assoc]
                clear HT3
                generalize ts ++ L.take j = acc at *
                have HBX : Hid (Below wr.heap.size wr (wr.alloc (.cells #[.int .i64 t, .slice ja dt.length jc] 45)).drew) := ((Below.refl _ _).alloc (Nat.le_refl _) _).drew
                have HA : Hid (Cp w (wr.alloc (.cells #[.int .i64 t, .slice ja dt.length jc] 45)).drew u6 acc) := HP3.out.below HBX.out
                have HR2 : Hid (ReadsV (wr.alloc (.cells #[.int .i64 t, .slice ja dt.length jc] 45)).drew (.slice ja dt.length jc) dt) := HRd.out.below HBX.out
                have HC2 : Hid (Cell2 (wr.alloc (.cells #[.int .i64 t, .slice ja dt.length jc] 45)).drew wr.heap.size (.int .i64 t) (.slice ja dt.length jc)) := (Cell2.new wr _ _ 45).below ((Below.refl _ _).drew)
                have HNe : Hid (u6.ownBlock ≠ some wr.heap.size) := fun e => by have := (HP3.out.g.own _ e).2; omega
                have HW0 : Hid (w.heap.size ≤ wr.heap.size) := HP3.out.b.size
                clear HRd HP3 HBX
                go_wp2
                go_region_held3 (fun w' => w'.cell? ⟨wr.heap.size, 0, none⟩ = some (.int .i64 t) ∧ w'.cell? ⟨wr.heap.size, 1, none⟩ = some (.slice ja dt.length jc)) (go_keep) (first
                  | (refine step_bytes rfl _ _ rfl HR2.out (by omega) rfl rfl ?_; intro v5 w5 hO5 hB5; obtain ⟨a5, c5, e5, q1, q2, q3⟩ := entry_new HA.out hIn.out hO5 hB5; subst e5; have HC5 : Hid (Cell2 w5 wr.heap.size (.int .i64 t) (.slice ja dt.length jc)) := HC2.out.below hB5; obtain ⟨z0, z1, z2⟩ := HC5.out; have hM5 : wr.heap.size < w5.heap.size := World.block_lt_of_cell? _ _ z0; have HB5 : Hid (Cp w w5 u6 acc ∧ EnsV (w5.alloc (.cells #[.int .i64 t, .slice a5 dt.length c5] 45)) (fun g => (wr.alloc (.cells #[.int .i64 t, .slice ja dt.length jc] 45)).drew.heap.size ≤ g) (some ⟨w5.heap.size, 0, none⟩) 1 [(t, dt)] ∧ ∀ g, (wr.alloc (.cells #[.int .i64 t, .slice ja dt.length jc] 45)).drew.heap.size ≤ g → w.heap.size ≤ g ∧ u6.ownBlock ≠ some g) := ⟨q1, q2, q3⟩; clear q1 q2 q3 hO5 hB5)
                  | (refine step_app rfl _ _ rfl (HB5.out.1.below ((Below.refl _ _).alloc (Nat.le_refl _) _)).g HB5.out.2.1 rfl (fun g hg _ => HB5.out.2.2 g hg) (Nat.le_trans HB5.out.1.b.size (le_alloc _ _)) rfl rfl (by have := HLn.out; simp only [List.length_cons, List.length_nil]; omega) ?_; intro v6 w6 q1 q2 q3; have HB6 : Hid (Cp w w6 v6 (acc ++ [(t, dt)])) := (HB5.out.1.below ((Below.refl _ _).alloc (Nat.le_refl _) _)).add q2 q1; obtain ⟨z3, z4, z5⟩ := (HC5.out.below ((Below.refl _ _).alloc (Nat.le_refl _) (.cells #[.int .i64 t, .slice a5 dt.length c5] 45))).kept (q2.block wr.heap.size (by rw [size_alloc]; omega) (fun e => HNe.out e.symm)); clear q1 q2 q3))
                go_wp2
                go_roundw
                case rel => exact ⟨j + 1, by omega, by go_num, by rw [HT4.out]; exact HB6.out⟩
                case measure => simp [intOf]; omega
              · have HQ : Hid (Cp w wr u6 ((ls.take (i + 1)).flatten) ∧ (ls.take (i + 1)).flatten.length ≤ 1000 * (i + 1)) := by
                  have e1 : L.take j = L := List.take_of_length_le (by omega)
                  have := HR.out
                  rw [e1, ← HF.out] at this
                  refine ⟨this, ?_⟩
                  have h9 := HO.out.2
                  rw [HF.out, List.length_append]; omega
                clear HR HO
                go_wp2
                go_roundw
                case rel => exact ⟨i + 1, by omega, by go_num, HQ.out.1, HQ.out.2⟩
                case measure => simp [intOf]; omega
          · have e0 : i = n := by omega
            have HE2 : Hid ((ls.take i).flatten = ls.flatten) := HFa.out i e0
            obtain ⟨ra, rc, e5⟩ := HR.out.1.g.form
            subst e5
            have HE3 : Hid (EnsV wr (fun g => w.heap.size ≤ g) ra rc ls.flatten ∧ Below w.heap.size w wr ∧ (ls.take i).flatten.length = ls.flatten.length) := ⟨by have := HR.out.1.g.reads.2; rw [HE2.out] at this; exact this.sub fun g hg _ => hg.elim id id, HR.out.1.b, by rw [HE2.out]⟩
            clear HR
            generalize (ls.take i).flatten.length = tl at *
            go_wp2
            go_ret
            exact ⟨ra, rc, by rw [← HE3.out.2.2]; rfl, HE3.out.1, HE3.out.2.1⟩
end Go.Proofs.Ytmpmbgjdbahmbaa
