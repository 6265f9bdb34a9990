/-
  The document's Scan: a contract.
-/
import Derived.Test.YtfjphlejhcdbaaaStkX
import Derived.Test.YtfjphlejhcdbaaaTxtA
import Derived.Deep.LoopGhost
namespace Go.Proofs.Ytfjphlejhcdbaaa
open Go.RowKit
set_option linter.unusedVariables false


/-- Words as they came. -/
def Came (w : World) (a : Option Addr) (l : List W) : Prop := l ≠ [] → ∃ b, a = some ⟨b, 0, none⟩ ∧ Lie w b 0 l
theorem Came.get {w wr : World} {a : Option Addr} {l : List W} (h : Came w a l) (hb : Below w.heap.size w wr) {j : Nat} (hj : j < l.length) : ∃ b, a = some ⟨b, 0, none⟩ ∧ b < wr.heap.size ∧ WAt wr b (j * 4) (atL l j) := by
  obtain ⟨b, e, hL⟩ := h (by rintro rfl; simp at hj)
  have := (hL.below hb) j hj
  rw [Nat.zero_add] at this
  exact ⟨b, e, World.block_lt_of_cell? wr _ this.1, this⟩
theorem fault_out {w wr : World} (hb : Below w.heap.size w wr) (hl : w.heap.size < wr.heap.size) (x y : Nat) : Below w.heap.size w ((wr.setCell ⟨w.heap.size, 0, none⟩ (.int .i64 x)).setCell ⟨w.heap.size, 1, none⟩ (.int .i64 y)) :=
  (hb.setCell (p := ⟨w.heap.size, 0, none⟩) (Nat.le_refl _) _).setCell (p := ⟨w.heap.size, 1, none⟩) (Nat.le_refl _) _
theorem Mark.go {w0 wr w1 : World} {v : Value} {l : List W} {j un : Nat} {op : Bool} {R : Option (Nat × List W)} {top : Op1} {st : List Op1} {m : Nat} (hS : Sc w0 wr v (turn top st)) (hb : Below wr.heap.size wr w1) (hR : scanM (l.drop (j + 1)) top st un op = R) (hm : st.length = m) (hst : m ≤ j ∧ ∀ x ∈ top :: st, x.1 ≤ 17 ∧ x.2.length ≤ j) : Mark w0 w1 v l (j + 1) un op R :=
  ⟨top, st, hS.below hb, hR, by omega, fun x hx => ⟨(hst.2 x hx).1, Nat.le_succ_of_le (hst.2 x hx).2⟩⟩
theorem Mark.set {w0 w5 : World} {g m cap td j : Nat} {l : List W} {R : Option (Nat × List W)} {top : Op1} {st : List Op1} {new : List Nat} {u : Value} (hS : Sc w0 w5 (.slice (some ⟨g, 0, none⟩) (m + 1) cap) (turn top st)) (hm : st.length = m) (htd : top.1 = td) (hl : LevV w5 w0.heap.size u new.reverse)
    (hR : scanM (l.drop (j + 1)) (top.1, new) st 0 true = R) (hst : m ≤ j ∧ ∀ x ∈ top :: st, x.1 ≤ 17 ∧ x.2.length ≤ j) (hn : new.length ≤ j + 1) : Mark w0 ((w5.setCell ⟨g, m * 2, none⟩ (.int .i64 td)).setCell ⟨g, m * 2 + 1, none⟩ u) (.slice (some ⟨g, 0, none⟩) (m + 1) cap) l (j + 1) 0 true R := by
  have key : ∀ a : Op1, turn a st = (st.map fun x => (x.1, x.2.reverse)).reverse ++ [(a.1, a.2.reverse)] := fun a => by unfold turn; rw [List.map_cons, List.reverse_cons]
  rw [key] at hS
  have h := hS.stored (by simp [hm]) hl td
  refine ⟨(top.1, new), st, ?_, hR, by omega, fun x hx => ?_⟩
  · rw [key, htd]; exact h
  · rcases List.mem_cons.1 hx with rfl | hx
    · exact ⟨(hst.2 top (List.mem_cons_self ..)).1, hn⟩
    · have := hst.2 x (List.mem_cons_of_mem _ hx)
      exact ⟨this.1, Nat.le_succ_of_le this.2⟩
structure Lo (w : World) (n : Nat) (K T N P D L : Value) : Prop where
  word : Cell4 w n K T N P
  t0 : w.cell? ⟨n + 1, 0, none⟩ = some D
  t1 : w.cell? ⟨n + 1, 1, none⟩ = some L
  lt : n + 1 < w.heap.size
theorem Lo.new (w : World) (K T N P D L : Value) : Lo ((w.alloc (.cells #[K, T, N, P] 86)).alloc (.cells #[D, L] 91)) w.heap.size K T N P D L := by
  have k := heap_alloc_new (w.alloc (.cells #[K, T, N, P] 86)) (.cells #[D, L] 91)
  rw [size_alloc] at k
  refine ⟨(Cell4.new w K T N P 86).alloc _, ?_, ?_, by rw [size_alloc, size_alloc]; omega⟩
  · rw [cell_of_row _ _ _ _ 91 (0, 0) k]; rfl
  · rw [cell_of_row _ _ _ _ 91 (0, 0) k]; rfl
theorem Lo.below {w w' : World} {n : Nat} {K T N P D L : Value} (h : Lo w n K T N P D L) (hb : Below w.heap.size w w') : Lo w' n K T N P D L :=
  ⟨h.word.below hb, (hb.cell (p := ⟨n + 1, 0, none⟩) h.lt).trans h.t0, (hb.cell (p := ⟨n + 1, 1, none⟩) h.lt).trans h.t1, Nat.lt_of_lt_of_le h.lt hb.size⟩
structure Rs (w : World) (n : Nat) : Prop where
  r0 : w.cell? ⟨n, 0, none⟩ = some (.int .i64 0)
  r1 : w.cell? ⟨n, 1, none⟩ = some (.int .i64 0)
  rf : ∀ i, w.frozen? ⟨n, i, none⟩ = false
  lt : n < w.heap.size
theorem Rs.below {w w' : World} {n : Nat} (h : Rs w n) (hb : Below w.heap.size w w') : Rs w' n :=
  ⟨(hb.cell (p := ⟨n, 0, none⟩) h.lt).trans h.r0, (hb.cell (p := ⟨n, 1, none⟩) h.lt).trans h.r1, fun i => (hb.frozen (p := ⟨n, i, none⟩) h.lt).trans (h.rf i), Nat.lt_of_lt_of_le h.lt hb.size⟩
theorem wpList_push2 {ops : Array Oper} {rest : List Oper} {o : Oper} {a : Act} {Q : Exit → Act → World → Prop} {wX : World} (hgd : o.guard = none) (s x : Operand)
    (ho : o.op = .call { callee := .builtin .append, args := #[s, x], argTypes := #[92, 92] }) {base : Nat} {v : Value} {ls : List Lay2} (hO : wX.ownsRow base 91 2 v ls.length (flat2 ls)) (hbase : base ≤ wX.heap.size) (hs : a.eval s = v) (d : Nat) (z : Int) (hz : z = d)
    {B : Nat} (hx : a.eval x = .slice (some ⟨B, 0, none⟩) 1 1) (hB : B = wX.heap.size) (hlen : ls.length ≤ 4096)
    (h : ∀ v' w', w'.ownsRow base 91 2 v' (ls.length + 1) (flat2 (ls ++ [(d, .slice none 0 0)])) → (wX.alloc (.cells #[.int .i64 z, .slice none 0 0] 91)).grownBy w' v.ownBlock → wpList Try.prog ops Q rest (a.put o.dst v') w') : wpList Try.prog ops Q (o :: rest) a (wX.alloc (.cells #[.int .i64 z, .slice none 0 0] 91)) := by
  subst hz
  exact wpList_push hgd s x ho hO hbase hs (d, .slice none 0 0) rfl hx hB hlen h
theorem two_up {wr w1 : World} {x y : Obj} (HB : Below ((wr.alloc x).alloc y).heap.size ((wr.alloc x).alloc y) w1) : Below wr.heap.size wr w1 :=
  (((Below.refl _ _).alloc (Nat.le_refl _) _).alloc (le_alloc _ _) _).trans (HB.mono (by rw [size_alloc, size_alloc]; omega))
set_option maxRecDepth 100000 in
set_option maxHeartbeats 4000000 in
theorem scan_walk (l : List W) (hl : l.length ≤ 4096) (hsg : Hid (∀ x ∈ l, x.kind = 3 → ∃ c, x.text = [c])) (en : Nat) (hen : en ≤ 4096) (a : Option Addr) (cap : Nat) (hcap : l.length ≤ cap) (w : World) (HL : Hid (Came w a l)) (R : Option (Nat × List W)) (HR : Hid (scanM l (1, []) [] 0 true = R)) :
    Calls Try.prog 42 #[.slice a l.length cap, .int .i64 en] w fun e w' => e = .returned (faultV (scanE en l).1 (scanE en l).2) ∧ Below w.heap.size w w' := by
  obtain ⟨w0, hw0⟩ : ∃ w0, w0 = w.alloc (.cells #[.int .i64 0, .int .i64 0] 57) := ⟨_, rfl⟩
  have HW0 : Hid (Below w.heap.size w w0 ∧ w0.heap.size = w.heap.size + 1 ∧ w0.heap[w.heap.size]? = some (.cells #[.int .i64 0, .int .i64 0] 57)) := by
    subst hw0
    exact ⟨(Below.refl _ _).alloc (Nat.le_refl _) _, size_alloc _ _, heap_alloc_new _ _⟩
  go_enter Try.func42, Try.ntmps42
  go_wp2
  rw [← hw0, show w.heap.size + 1 = w0.heap.size from HW0.out.2.1.symm]
  clear hw0
  have HM : Hid (Mark w0 (w0.alloc (.cells #[.int .i64 1, .slice none 0 0] 91)) (.slice (some ⟨w0.heap.size, 0, none⟩) 1 1) l 0 0 true R) := ⟨(1, []), [], sc_start w0, by rw [List.drop_zero]; exact HR.out, by decide, by simp⟩
  go_loopg [5, 6, 7, 8] (l.length + 1) (fun k v u p i wr => ∃ (un j : Nat) (op : Bool), u = .int .i64 un ∧ p = .bool op ∧ i = .int .i64 j ∧ j + k = l.length + 1 ∧ 1 ≤ k ∧ un ≤ 17 ∧ (op = false → un = 0) ∧ Hid (Mark w0 wr v l j un op R))
  case atStart => exact ⟨0, 0, true, rfl, rfl, rfl, by omega, by omega, by decide, by decide, HM.out⟩
  case round =>
    obtain ⟨un, j, op, rfl, rfl, rfl, hjk, hk1', hun, hu0, HM2⟩ := hrel
    obtain ⟨top, st, hSc, hsc, hst, hinv⟩ := HM2.out
    obtain ⟨g, scap, ta, tc, hv, hscap, hg, c0, c1, hlev⟩ := hSc.top
    subst hv
    have HSc : Hid (Sc w0 wr (.slice (some ⟨g, 0, none⟩) (st.length + 1) scap) (turn top st)) := hSc
    have HRe : Hid (scanM (l.drop j) top st un op = R) := hsc
    have HLev : Hid (LevV wr w0.heap.size (.slice ta top.2.length tc) top.2.reverse) := hlev
    have HB0 : Hid (Below w0.heap.size w0 wr) := hSc.bel
    have HBw : Hid (Below w.heap.size w wr) := HW0.out.1.trans (hSc.bel.mono (by rw [HW0.out.2.1]; omega))
    have k1 : wr.heap[w.heap.size]? = some (.cells #[.int .i64 0, .int .i64 0] 57) := (hSc.bel.block _ (by rw [HW0.out.2.1]; omega)).trans HW0.out.2.2
    have hwl : w.heap.size < wr.heap.size := (Array.getElem?_eq_some_iff.1 k1).1
    have r0 : wr.cell? ⟨w.heap.size, 0, none⟩ = some (.int .i64 0) := by rw [cell_of_row wr _ 0 _ 57 (0, 0) k1]; rfl
    have r1 : wr.cell? ⟨w.heap.size, 1, none⟩ = some (.int .i64 0) := by rw [cell_of_row wr _ 1 _ 57 (0, 0) k1]; rfl
    have rf : ∀ i, wr.frozen? ⟨w.heap.size, i, none⟩ = false := by intro i; simp [World.frozen?, k1]
    have hgw : g ≠ w.heap.size := by
      rintro rfl
      obtain ⟨ls, _, h2, _⟩ := hSc.lays
      have q1 : w0.heap.size ≤ w.heap.size := (World.ownsRow.lt h2 w.heap.size rfl).1
      have q2 : w0.heap.size = w.heap.size + 1 := HW0.out.2.1
      omega
    have HST : Hid (st.length ≤ j ∧ (∀ x ∈ top :: st, x.1 ≤ 17 ∧ x.2.length ≤ j)) := ⟨hst, hinv⟩
    have htop := hinv top (List.mem_cons_self ..)
    have htd := htop.1
    have htl := htop.2
    clear k1 htop hst hinv
    clear hSc hsc hlev HM2
    generalize hm : st.length = m at *
    generalize htn : top.2.length = tn at *
    generalize htd1 : top.1 = td at *
    have hmj : m ≤ j := HST.out.1
    have hwl2 : w.heap.size < wr.heap.size + 1 := by omega
    have hwl3 : w.heap.size < wr.heap.size + 1 + 1 := by omega
    have hgl2 : g < wr.heap.size + 1 := by omega
    have HRs : Hid (Rs wr w.heap.size) := ⟨r0, r1, rf, hwl⟩
    cases op with
    | false =>
      have hu0 := hu0 rfl
      subst hu0
      by_cases hjn : j < l.length
      · obtain ⟨b, rfl, hbl, x0, x1, x2, x3⟩ := HL.out.get HBw.out hjn
        have HI4 : Hid (∀ w, Calls Try.prog 58 #[.agg #[.int .i64 (atL l j).kind, .string (ba (atL l j).text), .int .i64 (atL l j).n, .int .i64 (atL l j).pos], .string ⟨#[41]⟩] w fun e w' => e = .returned (.bool (isW (atL l j) 41)) ∧ Below w.heap.size w w') := is_as rfl
        by_cases h41 : isW (atL l j) 41 = true ∧ st ≠ []
        · obtain ⟨h41, hne⟩ := h41
          rw [h41] at HI4
          obtain ⟨t2, s2, rfl⟩ := List.exists_cons_of_ne_nil hne
          obtain ⟨m2, rfl⟩ : ∃ m2, m = m2 + 1 := ⟨s2.length, by simp at hm; omega⟩
          have HN : Hid (scanM (l.drop (j + 1)) t2 s2 0 false = R) := sc_shut HRe.out hjn h41
          go_wp2_with (go_at_call 58; refine (HI4.out _).mono ?_; rintro e w1 ⟨rfl, HB⟩; have HB1 : Hid (Below wr.heap.size wr w1) := two_up HB; obtain ⟨⟨p0, p1, p2, p3, p4⟩, q0, q1, hl1⟩ := (Lo.new wr _ _ _ _ _ _).below HB; have hl1a : wr.heap.size < w1.heap.size := Nat.lt_of_succ_lt hl1; clear HB)
          go_roundg (gk - 1)
          · refine ⟨0, j + 1, false, rfl, rfl, by simp, by omega, by omega, by omega, fun _ => rfl, ?_⟩
            have hS := HSc.out.below HB1.out
            rw [turn_cons] at hS
            refine ⟨t2, s2, hS.popped (by rw [turn_len]; simpa using hm), HN.out, by simp at hm; omega, fun x hx => ?_⟩
            have := HST.out.2 x (List.mem_cons_of_mem _ hx)
            exact ⟨this.1, Nat.le_succ_of_le this.2⟩
          · omega
        · have h41s : isW (atL l j) 41 = true → st = [] := fun h => by
            by_cases e : st = []
            · exact e
            · exact absurd ⟨h, e⟩ h41
          by_cases h41b : isW (atL l j) 41 = true
          · have hst0 := h41s h41b
            rw [h41b] at HI4
            have hm0 : m = 0 := by rw [← hm, hst0]; rfl
            subst hm0
            have hmem : atL l j ∈ l := by unfold atL; rw [List.getD_eq_getElem?_getD, List.getElem?_eq_getElem hjn]; exact List.getElem_mem hjn
            have HKd : Hid (∀ w, Calls Try.prog 60 #[.agg #[.int .i64 (atL l j).kind, .string (ba (atL l j).text), .int .i64 (atL l j).n, .int .i64 (atL l j).pos]] w fun e w' => e = .returned (.int .i64 (kindW (atL l j))) ∧ Below w.heap.size w w') := kind_as (hsg.out _ hmem) rfl
            have HLv : Hid (∀ w, Calls Try.prog 59 #[.int .i64 (kindW (atL l j))] w fun e w' => e = .returned (.int .i64 (levW (atL l j))) ∧ w' = w) := level_as rfl
            generalize kindW (atL l j) = kd at HKd HLv
            generalize hlw : levW (atL l j) = k at HLv
            have hk0 : k = 6 := by rw [← hlw]; exact lv_six (kd_shut h41b)
            go_wp2_with (first
              | (go_at_call 59; have := HB2; refine (HLv.out _).mono ?_; rintro e w2 ⟨rfl, rfl⟩)
              | (go_at_call 60; have := HB1; refine (HKd.out _).mono ?_; rintro e w2 ⟨rfl, HB⟩; have HB2 : Hid (Below wr.heap.size wr w2) := HB1.out.trans (HB.mono HB1.out.size); obtain ⟨⟨p0, p1, p2, p3, p4⟩, q0, q1, hl1⟩ := (Lo.mk (Cell4.mk p0 p1 p2 p3 p4) q0 q1 hl1).below HB; have hl1a : wr.heap.size < w2.heap.size := Nat.lt_of_succ_lt hl1; clear HB HB1)
              | (go_at_call 58; refine (HI4.out _).mono ?_; rintro e w1 ⟨rfl, HB⟩; have HB1 : Hid (Below wr.heap.size wr w1) := two_up HB; obtain ⟨⟨p0, p1, p2, p3, p4⟩, q0, q1, hl1⟩ := (Lo.new wr _ _ _ _ _ _).below HB; have hl1a : wr.heap.size < w1.heap.size := Nat.lt_of_succ_lt hl1; clear HB))
            have hk6 : k ≤ 6 := by rw [← hlw]; exact lv_top _
            have HL2 : Hid (LevV w2 w0.heap.size (.slice ta tn tc) top.2.reverse) := own_below HLev.out HB2.out
            obtain ⟨og, hog⟩ : ∃ og, og = gk := ⟨_, rfl⟩
            go_loopg [14] tn (fun kk v wx => ∃ lv : List Nat, v = .slice ta lv.length tc ∧ Hid (lv.length = kk) ∧ w2 = wx ∧ Hid (popK k lv = popK k top.2 ∧ lv <:+ top.2))
            case atStart => exact ⟨top.2, by rw [htn], htn, rfl, rfl, List.suffix_refl _⟩
            case round =>
              obtain ⟨lv, rfl, hlk, rfl, HP⟩ := hrel
              have HLl : Hid (LevV w2 w0.heap.size (.slice ta lv.length tc) lv.reverse) := HL2.out.left htn HP.out.2
              have hlvj : lv.length ≤ j := Nat.le_trans HP.out.2.length_le (by rw [htn]; exact htl)
              cases lv with
              | nil =>
                have he6 : ((k : Int) == 6) = true := by simp; omega
                have HE : Hid (scanE en l = (3, (atL l j).pos)) := se_at HR.out (sc_bad HRe.out hjn h41s (by rw [hlw]; exact .inl hk0)) hjn
                obtain ⟨r0, r1, rf, hwl9⟩ := HRs.out.below HB2.out
                go_wp2
                refine bodyPost_ret (v := faultV 3 (atL l j).pos) (by unfold faultV; simp [results, Try.results42, go_sem, r0, r1]) rfl ⟨by rw [HE.out], ?_⟩
                exact fault_out (HBw.out.trans (HB2.out.mono HBw.out.size)) hwl9 3 (atL l j).pos
              | cons x r =>
                obtain ⟨gl, rfl, hgl, hx, hrc⟩ := lev_last HLl.out
                have hrl : r.length ≤ 4096 := by have h := hlvj; simp at h; omega
                by_cases hkx : k < x
                · have HP2 : Hid (popK k r = popK k top.2 ∧ r <:+ top.2) := ⟨by rw [← HP.out.1]; exact (if_pos hkx).symm, suffix_tail HP.out.2⟩
                  go_wp2
                  go_roundg (gk - 1)
                  · exact ⟨r, by simp, by have := hlk.out; simp at this; show r.length = gk - 1; omega, rfl, HP2.out⟩
                  · have := hlk.out; simp at this; omega
                · have hpk : popK k top.2 = x :: r := by rw [← HP.out.1]; exact if_neg hkx
                  by_cases hxe : x = k
                  · subst hxe
                    have he6 : ((x : Int) == 6) = true := by simp; omega
                    have HE : Hid (scanE en l = (3, (atL l j).pos)) := se_at HR.out (sc_bad HRe.out hjn h41s (by rw [hlw]; exact .inl hk0)) hjn
                    obtain ⟨r0, r1, rf, hwl9⟩ := HRs.out.below HB2.out
                    go_wp2
                    refine bodyPost_ret (v := faultV 3 (atL l j).pos) (by unfold faultV; simp [results, Try.results42, go_sem, r0, r1]) rfl ⟨by rw [HE.out], ?_⟩
                    exact fault_out (HBw.out.trans (HB2.out.mono HBw.out.size)) hwl9 3 (atL l j).pos
                  · have hxl : x < k := by omega
                    have he6 : ((k : Int) == 6) = true := by simp; omega
                    have hne : ((x : Int) == (k : Int)) = false := by simp; omega
                    have HE : Hid (scanE en l = (3, (atL l j).pos)) := se_at HR.out (sc_bad HRe.out hjn h41s (by rw [hlw]; exact .inl hk0)) hjn
                    obtain ⟨r0, r1, rf, hwl9⟩ := HRs.out.below HB2.out
                    go_wp2
                    refine bodyPost_ret (v := faultV 3 (atL l j).pos) (by unfold faultV; simp [results, Try.results42, go_sem, r0, r1]) rfl ⟨by rw [HE.out], ?_⟩
                    exact fault_out (HBw.out.trans (HB2.out.mono HBw.out.size)) hwl9 3 (atL l j).pos
          · have h41c : isW (atL l j) 41 = false := by simpa using h41b
            rw [h41c] at HI4
            have hmem : atL l j ∈ l := by unfold atL; rw [List.getD_eq_getElem?_getD, List.getElem?_eq_getElem hjn]; exact List.getElem_mem hjn
            have HKd : Hid (∀ w, Calls Try.prog 60 #[.agg #[.int .i64 (atL l j).kind, .string (ba (atL l j).text), .int .i64 (atL l j).n, .int .i64 (atL l j).pos]] w fun e w' => e = .returned (.int .i64 (kindW (atL l j))) ∧ Below w.heap.size w w') := kind_as (hsg.out _ hmem) rfl
            have HLv : Hid (∀ w, Calls Try.prog 59 #[.int .i64 (kindW (atL l j))] w fun e w' => e = .returned (.int .i64 (levW (atL l j))) ∧ w' = w) := level_as rfl
            generalize kindW (atL l j) = kd at HKd HLv
            generalize hlw : levW (atL l j) = k at HLv
            go_wp2_with (first
              | (go_at_call 59; have := HB2; refine (HLv.out _).mono ?_; rintro e w2 ⟨rfl, rfl⟩)
              | (go_at_call 60; have := HB1; refine (HKd.out _).mono ?_; rintro e w2 ⟨rfl, HB⟩; have HB2 : Hid (Below wr.heap.size wr w2) := HB1.out.trans (HB.mono HB1.out.size); obtain ⟨⟨p0, p1, p2, p3, p4⟩, q0, q1, hl1⟩ := (Lo.mk (Cell4.mk p0 p1 p2 p3 p4) q0 q1 hl1).below HB; have hl1a : wr.heap.size < w2.heap.size := Nat.lt_of_succ_lt hl1; clear HB HB1)
              | (go_at_call 58; refine (HI4.out _).mono ?_; rintro e w1 ⟨rfl, HB⟩; have HB1 : Hid (Below wr.heap.size wr w1) := two_up HB; obtain ⟨⟨p0, p1, p2, p3, p4⟩, q0, q1, hl1⟩ := (Lo.new wr _ _ _ _ _ _).below HB; have hl1a : wr.heap.size < w1.heap.size := Nat.lt_of_succ_lt hl1; clear HB))
            have hk6 : k ≤ 6 := by rw [← hlw]; exact lv_top _
            have HL2 : Hid (LevV w2 w0.heap.size (.slice ta tn tc) top.2.reverse) := own_below HLev.out HB2.out
            obtain ⟨og, hog⟩ : ∃ og, og = gk := ⟨_, rfl⟩
            go_loopg [14] tn (fun kk v wx => ∃ lv : List Nat, v = .slice ta lv.length tc ∧ Hid (lv.length = kk) ∧ w2 = wx ∧ Hid (popK k lv = popK k top.2 ∧ lv <:+ top.2))
            case atStart => exact ⟨top.2, by rw [htn], htn, rfl, rfl, List.suffix_refl _⟩
            case round =>
              obtain ⟨lv, rfl, hlk, rfl, HP⟩ := hrel
              have HLl : Hid (LevV w2 w0.heap.size (.slice ta lv.length tc) lv.reverse) := HL2.out.left htn HP.out.2
              have hlvj : lv.length ≤ j := Nat.le_trans HP.out.2.length_le (by rw [htn]; exact htl)
              cases lv with
              | nil =>
                by_cases hk6e : k = 6
                · have he6 : ((k : Int) == 6) = true := by simp; omega
                  have HE : Hid (scanE en l = (3, (atL l j).pos)) := se_at HR.out (sc_bad HRe.out hjn h41s (by rw [hlw]; exact .inl hk6e)) hjn
                  obtain ⟨r0, r1, rf, hwl9⟩ := HRs.out.below HB2.out
                  go_wp2
                  refine bodyPost_ret (v := faultV 3 (atL l j).pos) (by unfold faultV; simp [results, Try.results42, go_sem, r0, r1]) rfl ⟨by rw [HE.out], ?_⟩
                  exact fault_out (HBw.out.trans (HB2.out.mono HBw.out.size)) hwl9 3 (atL l j).pos
                · have he6 : ((k : Int) == 6) = false := by simp; omega
                  have hpn : popK k top.2 = [] := HP.out.1.symm
                  have HN : Hid (scanM (l.drop (j + 1)) (top.1, k :: []) st 0 true = R) := by
                    have h := sc_next HRe.out hjn h41s (by rw [hlw]; exact (by rw [hpn]; simp [headIs]; omega))
                    rw [hlw, show pushK k top.2 = k :: [] from (by unfold pushK; rw [hpn]; rfl)] at h
                    exact h
                  go_wp2_with (first
                    | (at_builtin; have := HV3; refine wpList_lev1 rfl (.tmp 150) (.tmp 152) rfl k HV3.out.1 HV3.out.2.size rfl rfl rfl (by rw [List.length_reverse]; exact Nat.le_trans hlvj (by omega)) ?_; intro v5 w5 hl5 hg5; obtain ⟨a5, c5, rfl, _⟩ := hl5.slice; have HV5 : Hid (LevV w5 w2.heap.size _ _ ∧ Below w2.heap.size w2 w5) := ⟨hl5, (HV3.out.2.alloc HV3.out.2.size _).grown hg5 (Nat.le_trans HV3.out.2.size (le_alloc _ _)) (fun q hq => (World.ownsRow.lt HV3.out.1 q hq).1)⟩; clear hl5 hg5; obtain ⟨⟨p0, p1, p2, p3, p4⟩, q0, q1, hl9⟩ := (Lo.mk (Cell4.mk p0 p1 p2 p3 p4) q0 q1 hl1).below HV5.out.2; have hl9a : wr.heap.size + 1 < w5.heap.size := hl9; have HS9 : Hid (Sc w0 w5 (.slice (some ⟨g, 0, none⟩) (m + 1) scap) (turn top st)) := (HSc.out.below HB2.out).below HV5.out.2; obtain ⟨hg9, ⟨y0, z0⟩, ⟨y1, z1⟩, zf⟩ := HS9.out.open (by rw [turn_len, hm]))
                    | (at_builtin; refine wpList_levs rfl (.tmp 145) (.tmp 146) rfl rfl rfl HLl.out (by simp) (Nat.le_trans hlvj (by omega)) ?_; intro v3 w3 hl3 hg3; obtain ⟨a3, c3, rfl, _⟩ := hl3.slice; have HV3 : Hid (LevV w3 w2.heap.size _ _ ∧ Below w2.heap.size w2 w3) := ⟨hl3, (Below.refl _ _).grown hg3 (Nat.le_refl _) (by simp)⟩; clear hl3 hg3))
                  go_roundg (og - 1)
                  · refine ⟨0, j + 1, true, rfl, rfl, by simp, by omega, by omega, by omega, fun h => absurd h (by decide), ?_⟩
                    exact Mark.set (new := k :: []) HS9.out hm htd1 (by have h := HV5.out.1.mono (HB0.out.trans (HB2.out.mono HB0.out.size)).size; simpa using h) HN.out HST.out (by simp only [List.length_cons, List.length_nil] at hlvj ⊢; omega)
                  · omega
              | cons x r =>
                obtain ⟨gl, rfl, hgl, hx, hrc⟩ := lev_last HLl.out
                have hrl : r.length ≤ 4096 := by have h := hlvj; simp at h; omega
                by_cases hkx : k < x
                · have HP2 : Hid (popK k r = popK k top.2 ∧ r <:+ top.2) := ⟨by rw [← HP.out.1]; exact (if_pos hkx).symm, suffix_tail HP.out.2⟩
                  go_wp2
                  go_roundg (gk - 1)
                  · exact ⟨r, by simp, by have := hlk.out; simp at this; show r.length = gk - 1; omega, rfl, HP2.out⟩
                  · have := hlk.out; simp at this; omega
                · have hpk : popK k top.2 = x :: r := by rw [← HP.out.1]; exact if_neg hkx
                  by_cases hxe : x = k
                  · subst hxe
                    have hhd : headIs x (popK x top.2) = true := by rw [hpk]; simp [headIs]
                    by_cases hk6e : x = 6
                    · have he6 : ((x : Int) == 6) = true := by simp; omega
                      have HE : Hid (scanE en l = (3, (atL l j).pos)) := se_at HR.out (sc_bad HRe.out hjn h41s (by rw [hlw]; exact .inl hk6e)) hjn
                      obtain ⟨r0, r1, rf, hwl9⟩ := HRs.out.below HB2.out
                      go_wp2
                      refine bodyPost_ret (v := faultV 3 (atL l j).pos) (by unfold faultV; simp [results, Try.results42, go_sem, r0, r1]) rfl ⟨by rw [HE.out], ?_⟩
                      exact fault_out (HBw.out.trans (HB2.out.mono HBw.out.size)) hwl9 3 (atL l j).pos
                    · have he6 : ((x : Int) == 6) = false := by simp; omega
                      by_cases hk3 : x = 3
                      · have he3 : ((x : Int) == 3) = true := by simp; omega
                        have HE : Hid (scanE en l = (3, (atL l j).pos)) := se_at HR.out (sc_bad HRe.out hjn h41s (by rw [hlw]; exact .inr ⟨hhd, hk3⟩)) hjn
                        obtain ⟨r0, r1, rf, hwl9⟩ := HRs.out.below HB2.out
                        go_wp2
                        refine bodyPost_ret (v := faultV 3 (atL l j).pos) (by unfold faultV; simp [results, Try.results42, go_sem, r0, r1]) rfl ⟨by rw [HE.out], ?_⟩
                        exact fault_out (HBw.out.trans (HB2.out.mono HBw.out.size)) hwl9 3 (atL l j).pos
                      · have he3 : ((x : Int) == 3) = false := by simp; omega
                        have HN : Hid (scanM (l.drop (j + 1)) (top.1, x :: r) st 0 true = R) := by
                          have h := sc_next HRe.out hjn h41s (by rw [hlw]; exact (by intro h; rcases h with h | h <;> omega))
                          rw [hlw, show pushK x top.2 = x :: r from (by unfold pushK; rw [if_pos hhd]; exact hpk)] at h
                          exact h
                        go_wp2_with (first
                          | (at_builtin; refine wpList_levs rfl (.tmp 145) (.tmp 146) rfl rfl rfl HLl.out (by simp) (Nat.le_trans hlvj (by omega)) ?_; intro v3 w3 hl3 hg3; obtain ⟨a3, c3, rfl, _⟩ := hl3.slice; simp only [List.length_reverse, List.length_cons] at hl3; have HV3 : Hid (LevV w3 w2.heap.size _ _ ∧ Below w2.heap.size w2 w3) := ⟨hl3, (Below.refl _ _).grown hg3 (Nat.le_refl _) (by simp)⟩; clear hl3 hg3; obtain ⟨⟨p0, p1, p2, p3, p4⟩, q0, q1, hl9⟩ := (Lo.mk (Cell4.mk p0 p1 p2 p3 p4) q0 q1 hl1).below HV3.out.2; have hl9a : wr.heap.size + 1 < w3.heap.size := hl9; have HS9 : Hid (Sc w0 w3 (.slice (some ⟨g, 0, none⟩) (m + 1) scap) (turn top st)) := (HSc.out.below HB2.out).below HV3.out.2; obtain ⟨hg9, ⟨y0, z0⟩, ⟨y1, z1⟩, zf⟩ := HS9.out.open (by rw [turn_len, hm])))
                        go_roundg (og - 1)
                        · refine ⟨0, j + 1, true, rfl, rfl, by simp, by omega, by omega, by omega, fun h => absurd h (by decide), ?_⟩
                          exact Mark.set (new := x :: r) HS9.out hm htd1 (by have h := HV3.out.1.mono (HB0.out.trans (HB2.out.mono HB0.out.size)).size; simpa using h) HN.out HST.out (by simp only [List.length_cons] at hlvj ⊢; omega)
                        · omega
                  · have hxl : x < k := by omega
                    have hhd : headIs k (popK k top.2) = false := by rw [hpk]; simp [headIs]; omega
                    have hne : ((x : Int) == (k : Int)) = false := by simp; omega
                    by_cases hk6e : k = 6
                    · have he6 : ((k : Int) == 6) = true := by simp; omega
                      have HE : Hid (scanE en l = (3, (atL l j).pos)) := se_at HR.out (sc_bad HRe.out hjn h41s (by rw [hlw]; exact .inl hk6e)) hjn
                      obtain ⟨r0, r1, rf, hwl9⟩ := HRs.out.below HB2.out
                      go_wp2
                      refine bodyPost_ret (v := faultV 3 (atL l j).pos) (by unfold faultV; simp [results, Try.results42, go_sem, r0, r1]) rfl ⟨by rw [HE.out], ?_⟩
                      exact fault_out (HBw.out.trans (HB2.out.mono HBw.out.size)) hwl9 3 (atL l j).pos
                    · have he6 : ((k : Int) == 6) = false := by simp; omega
                      have HN : Hid (scanM (l.drop (j + 1)) (top.1, k :: (x :: r)) st 0 true = R) := by
                        have h := sc_next HRe.out hjn h41s (by rw [hlw]; exact (by rw [hhd]; intro h; rcases h with h | h; exact hk6e h; exact absurd h.1 (by decide)))
                        rw [hlw, show pushK k top.2 = k :: (x :: r) from (by unfold pushK; rw [hhd, hpk]; rfl)] at h
                        exact h
                      go_wp2_with (first
                        | (at_builtin; have := HV3; refine wpList_lev1 rfl (.tmp 150) (.tmp 152) rfl k HV3.out.1 HV3.out.2.size rfl rfl rfl (by rw [List.length_reverse]; exact Nat.le_trans hlvj (by omega)) ?_; intro v5 w5 hl5 hg5; obtain ⟨a5, c5, rfl, _⟩ := hl5.slice; have HV5 : Hid (LevV w5 w2.heap.size _ _ ∧ Below w2.heap.size w2 w5) := ⟨hl5, (HV3.out.2.alloc HV3.out.2.size _).grown hg5 (Nat.le_trans HV3.out.2.size (le_alloc _ _)) (fun q hq => (World.ownsRow.lt HV3.out.1 q hq).1)⟩; clear hl5 hg5; obtain ⟨⟨p0, p1, p2, p3, p4⟩, q0, q1, hl9⟩ := (Lo.mk (Cell4.mk p0 p1 p2 p3 p4) q0 q1 hl1).below HV5.out.2; have hl9a : wr.heap.size + 1 < w5.heap.size := hl9; have HS9 : Hid (Sc w0 w5 (.slice (some ⟨g, 0, none⟩) (m + 1) scap) (turn top st)) := (HSc.out.below HB2.out).below HV5.out.2; obtain ⟨hg9, ⟨y0, z0⟩, ⟨y1, z1⟩, zf⟩ := HS9.out.open (by rw [turn_len, hm]))
                        | (at_builtin; refine wpList_levs rfl (.tmp 145) (.tmp 146) rfl rfl rfl HLl.out (by simp) (Nat.le_trans hlvj (by omega)) ?_; intro v3 w3 hl3 hg3; obtain ⟨a3, c3, rfl, _⟩ := hl3.slice; simp only [List.length_reverse, List.length_cons] at hl3; have HV3 : Hid (LevV w3 w2.heap.size _ _ ∧ Below w2.heap.size w2 w3) := ⟨hl3, (Below.refl _ _).grown hg3 (Nat.le_refl _) (by simp)⟩; clear hl3 hg3))
                      go_roundg (og - 1)
                      · refine ⟨0, j + 1, true, rfl, rfl, by simp, by omega, by omega, by omega, fun h => absurd h (by decide), ?_⟩
                        exact Mark.set (new := k :: (x :: r)) HS9.out hm htd1 (by have h := HV5.out.1.mono (HB0.out.trans (HB2.out.mono HB0.out.size)).size; simpa using h) HN.out HST.out (by simp only [List.length_cons] at hlvj ⊢; omega)
                      · omega
      · have hje : j = l.length := by omega
        have HS := sc_stop HRe.out hje
        by_cases hm0 : m = 0
        · have HE : Hid (scanE en l = (0, 0)) := se_ok HR.out (by rw [HS, if_pos (List.length_eq_zero_iff.1 (hm.trans hm0))])
          subst hm0
          go_wp2
          refine bodyPost_ret (v := faultV 0 0) (by unfold faultV; simp [results, Try.results42, go_sem, r0, r1, hwl, hwl2]) rfl ⟨by rw [HE.out], ?_⟩
          have h1 := fault_out HBw.out hwl 0 0
          have h2 := h1.alloc h1.size (.cells #[.int .i64 0, .string ⟨#[]⟩, .int .i64 0, .int .i64 0] 86)
          exact h2.alloc h2.size _
        · have HE : Hid (scanE en l = (3, en)) := se_end HR.out (by rw [HS, if_neg (by rintro rfl; exact hm0 hm.symm)])
          have hm1 : 1 < m + 1 := by omega
          go_wp2
          refine bodyPost_ret (v := faultV 3 en) (by unfold faultV; simp [results, Try.results42, go_sem, r0, r1, hwl, hwl2]) rfl ⟨by rw [HE.out], ?_⟩
          have h1 := fault_out HBw.out hwl 3 en
          have h2 := h1.alloc h1.size (.cells #[.int .i64 0, .string ⟨#[]⟩, .int .i64 0, .int .i64 0] 86)
          exact h2.alloc h2.size _
    | true =>
      by_cases hd : 16 < td + tn + un
      · have HD : Hid (R = some (6, l.drop j)) := sc_deep rfl HRe.out (by rw [htd1, htn]; exact hd)
        by_cases hjn : j < l.length
        · obtain ⟨b, rfl, hbl, x0, x1, x2, x3⟩ := HL.out.get HBw.out hjn
          have HE : Hid (scanE en l = (6, (atL l j).pos)) := se_at HR.out HD.out hjn
          go_wp2
          refine bodyPost_ret (v := faultV 6 (atL l j).pos) (by unfold faultV; simp [results, Try.results42, go_sem, r0, r1, hwl, hwl2]) rfl ⟨by rw [HE.out], ?_⟩
          have h1 := fault_out HBw.out hwl 6 (atL l j).pos
          have h2 := h1.alloc h1.size (.cells #[.int .i64 (atL l j).kind, .string (ba (atL l j).text), .int .i64 (atL l j).n, .int .i64 (atL l j).pos] 86)
          exact h2.alloc h2.size _
        · have hje : j = l.length := by omega
          have HE : Hid (scanE en l = (6, en)) := by
            refine se_end HR.out ?_
            rw [HD.out, hje, List.drop_length]
          go_wp2
          refine bodyPost_ret (v := faultV 6 en) (by unfold faultV; simp [results, Try.results42, go_sem, r0, r1, hwl, hwl2]) rfl ⟨by rw [HE.out], ?_⟩
          have h1 := fault_out HBw.out hwl 6 en
          have h2 := h1.alloc h1.size (.cells #[.int .i64 0, .string ⟨#[]⟩, .int .i64 0, .int .i64 0] 86)
          exact h2.alloc h2.size _
      · have HND : Hid (¬ 16 < top.1 + top.2.length + un) := by rw [htd1, htn]; exact hd
        by_cases hjn : j < l.length
        · obtain ⟨b, rfl, hbl, x0, x1, x2, x3⟩ := HL.out.get HBw.out hjn
          have HI1 : Hid (∀ w, Calls Try.prog 58 #[.agg #[.int .i64 (atL l j).kind, .string (ba (atL l j).text), .int .i64 (atL l j).n, .int .i64 (atL l j).pos], .string ⟨#[45]⟩] w fun e w' => e = .returned (.bool (isW (atL l j) 45)) ∧ Below w.heap.size w w') := is_as rfl
          have HI2 : Hid (∀ w, Calls Try.prog 58 #[.agg #[.int .i64 (atL l j).kind, .string (ba (atL l j).text), .int .i64 (atL l j).n, .int .i64 (atL l j).pos], .string ⟨#[33]⟩] w fun e w' => e = .returned (.bool (isW (atL l j) 33)) ∧ Below w.heap.size w w') := is_as rfl
          have HI3 : Hid (∀ w, Calls Try.prog 58 #[.agg #[.int .i64 (atL l j).kind, .string (ba (atL l j).text), .int .i64 (atL l j).n, .int .i64 (atL l j).pos], .string ⟨#[40]⟩] w fun e w' => e = .returned (.bool (isW (atL l j) 40)) ∧ Below w.heap.size w w') := is_as rfl
          by_cases h45 : isW (atL l j) 45 = true
          · rw [h45] at HI1
            have HN : Hid (scanM (l.drop (j + 1)) top st (un + 1) true = R) := sc_sign HRe.out hjn HND.out (.inl h45)
            go_wp2_with (go_at_call 58; refine (HI1.out _).mono ?_; rintro e w1 ⟨rfl, HB⟩; have HB1 : Hid (Below wr.heap.size wr w1) := two_up HB; clear HB)
            go_roundg (gk - 1)
            · refine ⟨un + 1, j + 1, true, by simp, rfl, by simp, by omega, by omega, by omega, fun h => absurd h (by decide), ?_⟩
              exact Mark.go HSc.out HB1.out HN.out hm HST.out
            · omega
          · have h45 : isW (atL l j) 45 = false := by simpa using h45
            rw [h45] at HI1
            by_cases h33 : isW (atL l j) 33 = true
            · rw [h33] at HI2
              have HN : Hid (scanM (l.drop (j + 1)) top st (un + 1) true = R) := sc_sign HRe.out hjn HND.out (.inr h33)
              go_wp2_with (first
                | (go_at_call 58; have := HB1; refine (HI2.out _).mono ?_; rintro e w2 ⟨rfl, HB⟩; have HB2 : Hid (Below wr.heap.size wr w2) := HB1.out.trans (HB.mono HB1.out.size); obtain ⟨⟨p0, p1, p2, p3, p4⟩, q0, q1, hl1⟩ := (Lo.mk (Cell4.mk p0 p1 p2 p3 p4) q0 q1 hl1).below HB; have hl1a : wr.heap.size < w2.heap.size := Nat.lt_of_succ_lt hl1; clear HB HB1)
                | (go_at_call 58; refine (HI1.out _).mono ?_; rintro e w1 ⟨rfl, HB⟩; have HB1 : Hid (Below wr.heap.size wr w1) := two_up HB; obtain ⟨⟨p0, p1, p2, p3, p4⟩, q0, q1, hl1⟩ := (Lo.new wr _ _ _ _ _ _).below HB; have hl1a : wr.heap.size < w1.heap.size := Nat.lt_of_succ_lt hl1; clear HB))
              go_roundg (gk - 1)
              · refine ⟨un + 1, j + 1, true, by simp, rfl, by simp, by omega, by omega, by omega, fun h => absurd h (by decide), ?_⟩
                exact Mark.go HSc.out HB2.out HN.out hm HST.out
              · omega
            · have h33 : isW (atL l j) 33 = false := by simpa using h33
              rw [h33] at HI2
              by_cases h40 : isW (atL l j) 40 = true
              · rw [h40] at HI3
                have HN : Hid (scanM (l.drop (j + 1)) (top.1 + top.2.length + un + 1, []) (top :: st) 0 true = R) := sc_open HRe.out hjn HND.out h45 h33 h40
                rw [htd1, htn] at HN
                go_wp2_with (first
                  | (at_builtin; have := HB3; obtain ⟨ls, e1, e2, e3⟩ := (HSc.out.below HB3.out).lays; refine wpList_push2 rfl (.tmp 66) (.tmp 70) rfl e2 (HB0.out.trans (HB3.out.mono HB0.out.size)).size rfl (td + tn + un + 1) _ (by omega) rfl rfl (by rw [e1, turn_len, hm]; omega) ?_; intro v1 w4 hown hgr; have HP : Hid (Sc w0 w4 v1 (turn top st ++ [(td + tn + un + 1, [])])) := Sc.pushed (HB0.out.trans (HB3.out.mono HB0.out.size)) e1 e2 e3 hown hgr; clear e1 e2 e3 hown hgr)
                  | (go_at_call 58; have := HB2; refine (HI3.out _).mono ?_; rintro e w3 ⟨rfl, HB⟩; have HB3 : Hid (Below wr.heap.size wr w3) := HB2.out.trans (HB.mono HB2.out.size); obtain ⟨⟨p0, p1, p2, p3, p4⟩, q0, q1, hl1⟩ := (Lo.mk (Cell4.mk p0 p1 p2 p3 p4) q0 q1 hl1).below HB; have hl1a : wr.heap.size < w3.heap.size := Nat.lt_of_succ_lt hl1; clear HB HB2)
                  | (go_at_call 58; have := HB1; refine (HI2.out _).mono ?_; rintro e w2 ⟨rfl, HB⟩; have HB2 : Hid (Below wr.heap.size wr w2) := HB1.out.trans (HB.mono HB1.out.size); obtain ⟨⟨p0, p1, p2, p3, p4⟩, q0, q1, hl1⟩ := (Lo.mk (Cell4.mk p0 p1 p2 p3 p4) q0 q1 hl1).below HB; have hl1a : wr.heap.size < w2.heap.size := Nat.lt_of_succ_lt hl1; clear HB HB1)
                  | (go_at_call 58; refine (HI1.out _).mono ?_; rintro e w1 ⟨rfl, HB⟩; have HB1 : Hid (Below wr.heap.size wr w1) := two_up HB; obtain ⟨⟨p0, p1, p2, p3, p4⟩, q0, q1, hl1⟩ := (Lo.new wr _ _ _ _ _ _).below HB; have hl1a : wr.heap.size < w1.heap.size := Nat.lt_of_succ_lt hl1; clear HB))
                go_roundg (gk - 1)
                · refine ⟨0, j + 1, true, rfl, rfl, by simp, by omega, by omega, by omega, fun h => absurd h (by decide), ?_⟩
                  refine ⟨(td + tn + un + 1, []), top :: st, ?_, HN.out, by simp; omega, ?_⟩
                  · rw [turn_cons]; exact HP.out
                  · intro x hx
                    rcases List.mem_cons.1 hx with rfl | hx
                    · exact ⟨by simp only; omega, Nat.zero_le _⟩
                    · exact ⟨(HST.out.2 x hx).1, Nat.le_succ_of_le (HST.out.2 x hx).2⟩
                · omega
              · have h40 : isW (atL l j) 40 = false := by simpa using h40
                rw [h40] at HI3
                by_cases hk1 : (atL l j).kind = 1
                · have HN : Hid (scanM (l.drop (j + 1)) top st 0 false = R) := sc_word HRe.out hjn HND.out (.inl hk1)
                  have hkc : ((atL l j).kind : Int) = 1 := by omega
                  rw [hkc] at x0 HI1 HI2 HI3
                  go_wp2_with (first
                    | (go_at_call 58; have := HB2; refine (HI3.out _).mono ?_; rintro e w3 ⟨rfl, HB⟩; have HB3 : Hid (Below wr.heap.size wr w3) := HB2.out.trans (HB.mono HB2.out.size); obtain ⟨⟨p0, p1, p2, p3, p4⟩, q0, q1, hl1⟩ := (Lo.mk (Cell4.mk p0 p1 p2 p3 p4) q0 q1 hl1).below HB; have hl1a : wr.heap.size < w3.heap.size := Nat.lt_of_succ_lt hl1; clear HB HB2)
                    | (go_at_call 58; have := HB1; refine (HI2.out _).mono ?_; rintro e w2 ⟨rfl, HB⟩; have HB2 : Hid (Below wr.heap.size wr w2) := HB1.out.trans (HB.mono HB1.out.size); obtain ⟨⟨p0, p1, p2, p3, p4⟩, q0, q1, hl1⟩ := (Lo.mk (Cell4.mk p0 p1 p2 p3 p4) q0 q1 hl1).below HB; have hl1a : wr.heap.size < w2.heap.size := Nat.lt_of_succ_lt hl1; clear HB HB1)
                    | (go_at_call 58; refine (HI1.out _).mono ?_; rintro e w1 ⟨rfl, HB⟩; have HB1 : Hid (Below wr.heap.size wr w1) := two_up HB; obtain ⟨⟨p0, p1, p2, p3, p4⟩, q0, q1, hl1⟩ := (Lo.new wr _ _ _ _ _ _).below HB; have hl1a : wr.heap.size < w1.heap.size := Nat.lt_of_succ_lt hl1; clear HB))
                  go_roundg (gk - 1)
                  · refine ⟨0, j + 1, false, rfl, rfl, by simp, by omega, by omega, by omega, fun _ => rfl, ?_⟩
                    exact Mark.go HSc.out HB3.out HN.out hm HST.out
                  · omega
                · by_cases hk2 : (atL l j).kind = 2
                  · have HN : Hid (scanM (l.drop (j + 1)) top st 0 false = R) := sc_word HRe.out hjn HND.out (.inr hk2)
                    have hkc : ((atL l j).kind : Int) = 2 := by omega
                    rw [hkc] at x0 HI1 HI2 HI3
                    go_wp2_with (first
                      | (go_at_call 58; have := HB2; refine (HI3.out _).mono ?_; rintro e w3 ⟨rfl, HB⟩; have HB3 : Hid (Below wr.heap.size wr w3) := HB2.out.trans (HB.mono HB2.out.size); obtain ⟨⟨p0, p1, p2, p3, p4⟩, q0, q1, hl1⟩ := (Lo.mk (Cell4.mk p0 p1 p2 p3 p4) q0 q1 hl1).below HB; have hl1a : wr.heap.size < w3.heap.size := Nat.lt_of_succ_lt hl1; clear HB HB2)
                      | (go_at_call 58; have := HB1; refine (HI2.out _).mono ?_; rintro e w2 ⟨rfl, HB⟩; have HB2 : Hid (Below wr.heap.size wr w2) := HB1.out.trans (HB.mono HB1.out.size); obtain ⟨⟨p0, p1, p2, p3, p4⟩, q0, q1, hl1⟩ := (Lo.mk (Cell4.mk p0 p1 p2 p3 p4) q0 q1 hl1).below HB; have hl1a : wr.heap.size < w2.heap.size := Nat.lt_of_succ_lt hl1; clear HB HB1)
                      | (go_at_call 58; refine (HI1.out _).mono ?_; rintro e w1 ⟨rfl, HB⟩; have HB1 : Hid (Below wr.heap.size wr w1) := two_up HB; obtain ⟨⟨p0, p1, p2, p3, p4⟩, q0, q1, hl1⟩ := (Lo.new wr _ _ _ _ _ _).below HB; have hl1a : wr.heap.size < w1.heap.size := Nat.lt_of_succ_lt hl1; clear HB))
                    go_roundg (gk - 1)
                    · refine ⟨0, j + 1, false, rfl, rfl, by simp, by omega, by omega, by omega, fun _ => rfl, ?_⟩
                      exact Mark.go HSc.out HB3.out HN.out hm HST.out
                    · omega
                  · have HE : Hid (scanE en l = (3, (atL l j).pos)) := se_at HR.out (sc_else HRe.out hjn HND.out h45 h33 h40 (by omega)) hjn
                    have hb1 : (((atL l j).kind : Int) != 1) = true := by simp; omega
                    have hb2 : (((atL l j).kind : Int) != 2) = true := by simp; omega
                    go_wp2_with (first
                      | (go_at_call 58; have := HB2; refine (HI3.out _).mono ?_; rintro e w3 ⟨rfl, HB⟩; have HB3 : Hid (Below wr.heap.size wr w3) := HB2.out.trans (HB.mono HB2.out.size); obtain ⟨⟨p0, p1, p2, p3, p4⟩, q0, q1, hl1⟩ := (Lo.mk (Cell4.mk p0 p1 p2 p3 p4) q0 q1 hl1).below HB; have hl1a : wr.heap.size < w3.heap.size := Nat.lt_of_succ_lt hl1; obtain ⟨r0, r1, rf, hwl9⟩ := HRs.out.below HB3.out; clear HB HB2)
                      | (go_at_call 58; have := HB1; refine (HI2.out _).mono ?_; rintro e w2 ⟨rfl, HB⟩; have HB2 : Hid (Below wr.heap.size wr w2) := HB1.out.trans (HB.mono HB1.out.size); obtain ⟨⟨p0, p1, p2, p3, p4⟩, q0, q1, hl1⟩ := (Lo.mk (Cell4.mk p0 p1 p2 p3 p4) q0 q1 hl1).below HB; have hl1a : wr.heap.size < w2.heap.size := Nat.lt_of_succ_lt hl1; clear HB HB1)
                      | (go_at_call 58; refine (HI1.out _).mono ?_; rintro e w1 ⟨rfl, HB⟩; have HB1 : Hid (Below wr.heap.size wr w1) := two_up HB; obtain ⟨⟨p0, p1, p2, p3, p4⟩, q0, q1, hl1⟩ := (Lo.new wr _ _ _ _ _ _).below HB; have hl1a : wr.heap.size < w1.heap.size := Nat.lt_of_succ_lt hl1; clear HB))
                    refine bodyPost_ret (v := faultV 3 (atL l j).pos) (by unfold faultV; simp [results, Try.results42, go_sem, r0, r1]) rfl ⟨by rw [HE.out], ?_⟩
                    exact fault_out (HBw.out.trans (HB3.out.mono HBw.out.size)) hwl9 3 (atL l j).pos
        · have hje : j = l.length := by omega
          have HE : Hid (scanE en l = (3, en)) := se_end HR.out (sc_end HRe.out hje HND.out)
          have HI1 : Hid (∀ w, Calls Try.prog 58 #[.agg #[.int .i64 0, .string ⟨#[]⟩, .int .i64 0, .int .i64 0], .string ⟨#[45]⟩] w fun e w' => e = .returned (.bool false) ∧ Below w.heap.size w w') := is_as (x := noW) rfl
          have HI2 : Hid (∀ w, Calls Try.prog 58 #[.agg #[.int .i64 0, .string ⟨#[]⟩, .int .i64 0, .int .i64 0], .string ⟨#[33]⟩] w fun e w' => e = .returned (.bool false) ∧ Below w.heap.size w w') := is_as (x := noW) rfl
          have HI3 : Hid (∀ w, Calls Try.prog 58 #[.agg #[.int .i64 0, .string ⟨#[]⟩, .int .i64 0, .int .i64 0], .string ⟨#[40]⟩] w fun e w' => e = .returned (.bool false) ∧ Below w.heap.size w w') := is_as (x := noW) rfl
          go_wp2_with (first
            | (go_at_call 58; have := HB2; refine (HI3.out _).mono ?_; rintro e w3 ⟨rfl, HB⟩; have HB3 : Hid (Below wr.heap.size wr w3) := HB2.out.trans (HB.mono HB2.out.size); obtain ⟨⟨p0, p1, p2, p3, p4⟩, q0, q1, hl1⟩ := (Lo.mk (Cell4.mk p0 p1 p2 p3 p4) q0 q1 hl1).below HB; have hl1a : wr.heap.size < w3.heap.size := Nat.lt_of_succ_lt hl1; obtain ⟨r0, r1, rf, hwl9⟩ := HRs.out.below HB3.out; clear HB HB2)
            | (go_at_call 58; have := HB1; refine (HI2.out _).mono ?_; rintro e w2 ⟨rfl, HB⟩; have HB2 : Hid (Below wr.heap.size wr w2) := HB1.out.trans (HB.mono HB1.out.size); obtain ⟨⟨p0, p1, p2, p3, p4⟩, q0, q1, hl1⟩ := (Lo.mk (Cell4.mk p0 p1 p2 p3 p4) q0 q1 hl1).below HB; have hl1a : wr.heap.size < w2.heap.size := Nat.lt_of_succ_lt hl1; clear HB HB1)
            | (go_at_call 58; refine (HI1.out _).mono ?_; rintro e w1 ⟨rfl, HB⟩; have HB1 : Hid (Below wr.heap.size wr w1) := two_up HB; obtain ⟨⟨p0, p1, p2, p3, p4⟩, q0, q1, hl1⟩ := (Lo.new wr _ _ _ _ _ _).below HB; have hl1a : wr.heap.size < w1.heap.size := Nat.lt_of_succ_lt hl1; clear HB))
          refine bodyPost_ret (v := faultV 3 en) (by unfold faultV; simp [results, Try.results42, go_sem, r0, r1]) rfl ⟨by rw [HE.out], ?_⟩
          exact fault_out (HBw.out.trans (HB3.out.mono HBw.out.size)) hwl9 3 en
end Go.Proofs.Ytfjphlejhcdbaaa
