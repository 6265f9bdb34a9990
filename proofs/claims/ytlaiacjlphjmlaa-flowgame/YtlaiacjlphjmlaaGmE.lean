/-
  The document's own Move: its contract.
-/
import Derived.Test.YtlaiacjlphjmlaaGmC
import Derived.Test.YtlaiacjlphjmlaaGmD
import Derived.Test.YtlaiacjlphjmlaaFwE
import Derived.BigQuiet
import Derived.Deep.RegionLaw
namespace Go.Proofs.Ytlaiacjlphjmlaa
open Go.RowKit
set_option linter.unusedVariables false

theorem erase_take (l : List Tk) (k i : Nat) (h : i < l.length) : (l.take (i + 1)).eraseIdx k = if i = k then (l.take i).eraseIdx k else (l.take i).eraseIdx k ++ [l.getD i zeroTk] := by
  have e : l.take (i + 1) = l.take i ++ [l.getD i zeroTk] := by
    rw [List.take_add_one, List.getElem?_eq_getElem h]; simp [List.getD_eq_getElem?_getD, h]
  have hl : (l.take i).length = i := by rw [List.length_take]; omega
  rw [e]
  by_cases hk : k < i
  · rw [List.eraseIdx_append_of_lt_length (by omega), if_neg (by omega)]
  · rw [List.eraseIdx_append_of_length_le (by omega), hl]
    have e2 : (l.take i).eraseIdx k = l.take i := List.eraseIdx_of_length_le (by omega)
    rw [e2]
    by_cases hik : i = k
    · rw [if_pos hik, hik, Nat.sub_self]; simp
    · rw [if_neg hik]
      rw [List.eraseIdx_of_length_le (l := [l.getD i zeroTk]) (by simp; omega)]
/-- Six new blocks. -/
theorem six_new (w : World) (o1 o2 o3 o4 o5 o6 : Obj) :
    let W := (((((w.alloc o1).alloc o2).alloc o3).alloc o4).alloc o5).alloc o6
    W.heap[w.heap.size]? = some o1 ∧ W.heap[w.heap.size + 1]? = some o2 ∧ W.heap[w.heap.size + 1 + 1]? = some o3 ∧ W.heap[w.heap.size + 1 + 1 + 1]? = some o4 ∧ W.heap[w.heap.size + 1 + 1 + 1 + 1]? = some o5 ∧ W.heap[w.heap.size + 1 + 1 + 1 + 1 + 1]? = some o6 ∧ W.heap.size = w.heap.size + 1 + 1 + 1 + 1 + 1 + 1 ∧ Below w.heap.size w W := by
  obtain ⟨a1, a2, a3, a4, a5, a6⟩ := four_new w o1 o2 o3 o4
  have s5 := size_alloc ((((w.alloc o1).alloc o2).alloc o3).alloc o4) o5
  have s6 := size_alloc (((((w.alloc o1).alloc o2).alloc o3).alloc o4).alloc o5) o6
  have b5 := heap_alloc_new ((((w.alloc o1).alloc o2).alloc o3).alloc o4) o5
  have b6 := heap_alloc_new (((((w.alloc o1).alloc o2).alloc o3).alloc o4).alloc o5) o6
  have k5 : ∀ g, g < ((((w.alloc o1).alloc o2).alloc o3).alloc o4).heap.size → (((((w.alloc o1).alloc o2).alloc o3).alloc o4).alloc o5).heap[g]? = ((((w.alloc o1).alloc o2).alloc o3).alloc o4).heap[g]? := fun g hg => heap_alloc_old _ _ hg
  have k6 : ∀ g, g < (((((w.alloc o1).alloc o2).alloc o3).alloc o4).alloc o5).heap.size → ((((((w.alloc o1).alloc o2).alloc o3).alloc o4).alloc o5).alloc o6).heap[g]? = (((((w.alloc o1).alloc o2).alloc o3).alloc o4).alloc o5).heap[g]? := fun g hg => heap_alloc_old _ _ hg
  have a5' : ((((w.alloc o1).alloc o2).alloc o3).alloc o4).heap.size = w.heap.size + 1 + 1 + 1 + 1 := a5
  refine ⟨?_, ?_, ?_, ?_, ?_, ?_, ?_, ?_⟩
  · exact (k6 _ (by omega)).trans ((k5 _ (by omega)).trans a1)
  · exact (k6 _ (by omega)).trans ((k5 _ (by omega)).trans a2)
  · exact (k6 _ (by omega)).trans ((k5 _ (by omega)).trans a3)
  · exact (k6 _ (by omega)).trans ((k5 _ (by omega)).trans a4)
  · rw [a5'] at b5; exact (k6 _ (by omega)).trans b5
  · rw [s5, a5'] at b6; exact b6
  · show ((((((w.alloc o1).alloc o2).alloc o3).alloc o4).alloc o5).alloc o6).heap.size = _
    omega
  · exact (a6.alloc (by omega) _).alloc (by omega) _
theorem cell2_of {W : World} {b : Nat} {v0 v1 : Value} {t : TypeId} (h : W.heap[b]? = some (.cells #[v0, v1] t (0, 0))) : Cell2 W b v0 v1 := by
  refine ⟨?_, ?_, fun i => by simp only [World.frozen?]; rw [h]; simp⟩ <;> (rw [cell_of_row _ _ _ _ t (0, 0) h]; rfl)
theorem cell5_of {W : World} {b : Nat} {v0 v1 v2 v3 v4 : Value} {t : TypeId} (h : W.heap[b]? = some (.cells #[v0, v1, v2, v3, v4] t (0, 0))) : Cell5 W b v0 v1 v2 v3 v4 := by
  refine ⟨?_, ?_, ?_, ?_, ?_, fun i => by simp only [World.frozen?]; rw [h]; simp⟩ <;> (rw [cell_of_row _ _ _ _ t (0, 0) h]; rfl)
/-- What Move has at hand all along. -/
structure Mb (w W : World) (D TC PL : Value × Value) (p0 p1 p2 p3 p4 : Value) : Prop where
  c4 : Cell2 W w.heap.size D.1 D.2
  c5 : Cell2 W (w.heap.size + 1) TC.1 TC.2
  c8 : Cell2 W (w.heap.size + 1 + 1) (.slice none 0 0) (.slice none 0 0)
  c9 : Cell2 W (w.heap.size + 1 + 1 + 1) PL.1 PL.2
  c10 : Cell5 W (w.heap.size + 1 + 1 + 1 + 1) p0 p1 p2 p3 p4
theorem Mb.kept {w W W' : World} {D TC PL : Value × Value} {p0 p1 p2 p3 p4 : Value} (h : Mb w W D TC PL p0 p1 p2 p3 p4) (hb : Below (w.heap.size + 1 + 1 + 1 + 1 + 1) W W') : Mb w W' D TC PL p0 p1 p2 p3 p4 :=
  ⟨h.c4.kept (hb.block _ (by omega)), h.c5.kept (hb.block _ (by omega)), h.c8.kept (hb.block _ (by omega)), h.c9.kept (hb.block _ (by omega)), h.c10.kept (hb.block _ (by omega))⟩
theorem mv_begin (w : World) (D TC PL : Value × Value) (p0 p1 p2 p3 p4 : Value) {v5 : Value} {w5 : World} {cm : List Nat}
    (h5 : Gw intR 3 1 w5 (w.heap.size + 1 + 1 + 1 + 1 + 1 + 1) v5 cm) (hb : Below (w.heap.size + 1 + 1 + 1 + 1 + 1 + 1) ((((((w.alloc (.cells #[D.1, D.2] 24)).alloc (.cells #[TC.1, TC.2] 44)).alloc (.cells #[.slice none 0 0, .slice none 0 0] 44)).alloc (.cells #[PL.1, PL.2] 41)).alloc (.cells #[p0, p1, p2, p3, p4] 37)).alloc (.cells #[.slice none 0 0, .slice none 0 0] 44)) w5) :
    Cell2 w5 (w.heap.size + 1 + 1 + 1 + 1 + 1) (.slice none 0 0) (.slice none 0 0) ∧ Mv w (w5.setCell ⟨w.heap.size + 1 + 1 + 1 + 1 + 1, 1, none⟩ v5) (w5.setCell ⟨w.heap.size + 1 + 1 + 1 + 1 + 1, 1, none⟩ v5) (w.heap.size + 1 + 1 + 1 + 1 + 1) (.slice none 0 0) v5 [] cm ∧ Gw intR 3 1 (w5.setCell ⟨w.heap.size + 1 + 1 + 1 + 1 + 1, 1, none⟩ v5) (w.heap.size + 1 + 1 + 1 + 1 + 1 + 1) v5 cm ∧ Mb w (w5.setCell ⟨w.heap.size + 1 + 1 + 1 + 1 + 1, 1, none⟩ v5) D TC PL p0 p1 p2 p3 p4 := by
  obtain ⟨a1, a2, a3, a4, a5, a6, a7, a8⟩ := six_new w (.cells #[D.1, D.2] 24) (.cells #[TC.1, TC.2] 44) (.cells #[.slice none 0 0, .slice none 0 0] 44) (.cells #[PL.1, PL.2] 41) (.cells #[p0, p1, p2, p3, p4] 37) (.cells #[.slice none 0 0, .slice none 0 0] 44)
  have c11 := (cell2_of a6).kept (hb.block _ (Nat.lt_succ_self _))
  have hbS : Below (w.heap.size + 1 + 1 + 1 + 1 + 1) _ (w5.setCell ⟨w.heap.size + 1 + 1 + 1 + 1 + 1, 1, none⟩ v5) := (hb.mono (Nat.le_succ _)).setCell (p := ⟨w.heap.size + 1 + 1 + 1 + 1 + 1, 1, none⟩) (Nat.le_refl _) v5
  have h5s := h5.set intR_kept (p := ⟨w.heap.size + 1 + 1 + 1 + 1 + 1, 1, none⟩) (Nat.lt_succ_self _) v5
  refine ⟨c11, ⟨a8.trans (hbS.mono (by omega)), Below.refl _ _, by omega, ?_, Gw.nil _ _ _ _ _, gw_iv h5s, fun k hk => ⟨h5.own k hk, ?_⟩, (fun k hk => by cases hk), (fun tv htv => by cases htv)⟩, h5s, Mb.kept ⟨cell2_of a1, cell2_of a2, cell2_of a3, cell2_of a4, cell5_of a5⟩ hbS⟩
  · obtain ⟨c0, c1, cf⟩ := c11
    exact ⟨cell_set c0, cell_set c1, fun i => by simp only [World.frozen?_setCell]; exact cf i⟩
  · by_cases q : k < (w5.setCell ⟨w.heap.size + 1 + 1 + 1 + 1 + 1, 1, none⟩ v5).heap.size
    · exact q
    · exact absurd hk (h5s.off (by omega))
theorem pok_new {w0 w6 w w9 : World} {M : Nat} {vT vC v9 : Value} {L : List (Tk × Value)} {cm : List Nat} {p : Nat} {pl : List Nat} (h : Mv w0 w6 w M vT vC L cm) (h9 : Gw intR 3 1 w9 w.heap.size v9 pl) (hb : Below w.heap.size w w9) : Pok w0 w9 M vT vC (⟨p, pl⟩, v9) := by
  have hh := h.hi
  refine ⟨gw_iv h9, fun k hk => ?_⟩
  have h1 := h9.own k hk
  refine ⟨.inr (by omega), ?_, h.tk.off h1, fun q => by have := (h.co k q).2; omega⟩
  by_cases q : k < w9.heap.size
  · exact q
  · exact absurd hk (h9.off (by omega))
theorem Gw.free {α : Type} {R : Rdr α} {el sz : Nat} {w : World} {B : Nat} {v : Value} {ts : List α} (h : Gw R el sz w B v ts) {g : Nat} (hv : v.ownBlock = some g) (i : Nat) : w.frozen? ⟨g, i, none⟩ = false := by
  obtain ⟨xs, h1, _⟩ := h
  rcases h1.2 with ⟨rfl, _⟩ | ⟨g2, cap, cur, rfl, _, hh, _⟩
  · cases hv
  · injection hv with hv
    have hv : g2 = g := hv
    subst hv
    simp only [World.frozen?]; rw [hh]; simp
theorem Pok.cut {w0 w : World} {M p m xg xc : Nat} {vT vC : Value} {pl : List Nat} (h : Pok w0 w M vT vC (⟨p, pl⟩, .slice (some ⟨xg, 0, none⟩) (m + 1) xc)) (hl : pl.length = m + 1) : Pok w0 w M vT vC (⟨p, pl.dropLast⟩, .slice (some ⟨xg, 0, none⟩) m xc) := ⟨h.1.cut hl, h.2⟩
theorem came_at {w0 w6 w : World} {M gc q x n c : Nat} {vT : Value} {L : List (Tk × Value)} {cm : List Nat} (h : Mv w0 w6 w M vT (.slice (some ⟨gc, 0, none⟩) n c) L (cm.set q x)) (hq : q < cm.length ∧ (cm.set q x).getD q 0 = x) : w.cell? ⟨gc, q, none⟩ = some (.int .i64 (x : Nat)) := by
  obtain ⟨a, c2, e, _, _, k3⟩ := h.cm
  injection e with e1 _ _
  rcases k3 with ⟨k4, _⟩ | ⟨g5, k4, k5⟩
  · rw [← e1] at k4; cases k4
  · rw [← e1] at k4
    injection k4 with k4; injection k4 with k4 _ _
    subst k4
    rw [k5 q (by rw [List.length_set]; exact hq.1), hq.2]
def MoveP (w : World) (g : Gm) (e : Ending) (w' : World) : Prop := ∃ ta tn tc ca cn cc, e = .returned (.agg #[.slice ta tn tc, .slice ca cn cc]) ∧ GmV w' ta tn tc (.slice ca cn cc) g ∧ Below w.heap.size w w'
set_option maxRecDepth 100000 in
set_option maxHeartbeats 16000000 in
theorem Move_any (d : Df) (P : Nat → Prop) (a : Option Addr) (c : Nat) (s : Fs) (w : World) (ta : Option Addr) (tn tc : Nat) (ca : Option Addr) (cn cc : Nat) (g : Gm) (k b : Nat) (hd : DfV w P d a c) (hn : d.places.length ≤ 4096) (hg : GmV w ta tn tc (.slice ca cn cc) g) (hk : k < g.toks.length) (hb : b < 16) (ht : g.toks.length ≤ 1000) (hc : g.came.length ≤ 1000)
    (hpos : (g.toks.getD k zeroTk).pos < d.places.length) (hpl : (g.toks.getD k zeroTk).plays.length ≤ 16)
    (hout : kindP d.places (g.toks.getD k zeroTk).pos ≠ 8 → 0 < outN d.places (g.toks.getD k zeroTk).pos) (hoL : outN d.places (g.toks.getD k zeroTk).pos ≤ 4096) (hto : ∀ x ∈ outP d.places (g.toks.getD k zeroTk).pos, 0 ≤ x.to ∧ x.to.toNat < d.places.length)
    (hj5 : kindP d.places (g.toks.getD k zeroTk).pos = 5 → (g.toks.getD k zeroTk).plays ≠ [] ∧ lastP (g.toks.getD k zeroTk).plays < g.came.length ∧ g.came.getD (lastP (g.toks.getD k zeroTk).plays) 0 ≤ 100000 ∧ s.fk.getD (g.toks.getD k zeroTk).pos 0 < d.places.length ∧ ∀ wx, Below w.heap.size w wx → Calls Try.prog 24 #[.agg #[.string (ba d.id), .slice a d.places.length c], .int .i64 ((g.toks.getD k zeroTk).pos : Nat)] wx fun e w' => ∃ g2 m c2, e = .returned (.slice (some ⟨g2, 0, none⟩) (m + 1) c2) ∧ w'.cell? ⟨g2, m, none⟩ = some (.int .i64 (s.fk.getD (g.toks.getD k zeroTk).pos 0 : Nat)) ∧ m + 1 ≤ c2 ∧ c2 ≤ 9223372036854775807 ∧ m ≤ 16 ∧ Below wx.heap.size wx w') :
    Calls Try.prog 11 #[.agg #[.string (ba d.id), .slice a d.places.length c], .agg #[.slice ta tn tc, .slice ca cn cc], .int .i64 (k : Nat), .int .i64 (b : Nat)] w (MoveP w (moveM d.places s g k b)) := by
  have HPs : Hid (Plz w w.heap.size a c d.places.length d.places) := ⟨hd.places.kept fun g hg hl => ⟨rfl, hl⟩, rfl⟩
  obtain ⟨hcap1, hcap2⟩ := hd.places.cap
  obtain ⟨tb, pv, rfl, t0, t1, t2, t3⟩ := hg.tok k hk
  have lt0 : tb < w.heap.size := World.block_lt_of_cell? _ _ t0
  have HG : Hid (GmV w (some ⟨tb, 0, none⟩) tn tc (.slice ca cn cc) g) := hg
  have htn := hg.len
  have HTn : Hid (g.toks.length = tn) := htn.symm
  rw [← htn] at hk ht
  clear htn
  have hcapt := hg.cap1
  have HCm : Hid (∀ o1 o2 o3 o4 o5 o6, Iv ((((((w.alloc o1).alloc o2).alloc o3).alloc o4).alloc o5).alloc o6) (.slice ca cn cc) g.came) := fun o1 o2 o3 o4 o5 o6 => hg.came.below (six_new w o1 o2 o3 o4 o5 o6).2.2.2.2.2.2.2
  have HLc : Hid (([] : List Nat).length + g.came.length ≤ 1048576) := by show _ ≤ _; simp; omega
  have HPlv : Hid (Iv w pv (g.toks.getD k zeroTk).plays) := t2
  have HPls : Hid ((g.toks.getD k zeroTk).plays.length ≤ 16) := hpl
  have HLp : Hid (([] : List Nat).length + (g.toks.getD k zeroTk).plays.length ≤ 1048576) := by show 0 + _ ≤ 1048576; omega
  obtain ⟨pa, pc, rfl, hpc1, hpc2, _⟩ := t2
  obtain ⟨qb, qo, aa, ca2, ao, co, rfl, hqb, hPA⟩ := HPs.out.v.at _ (by rw [HPs.out.len]; exact hpos)
  have x0 := hPA.c0
  have x1 := hPA.c1
  have x2 := hPA.c2
  have x3 := hPA.c3
  have x4 := hPA.c4
  have lx : qb < w.heap.size := World.block_lt_of_cell? _ _ x0
  have HFl : Hid (FlsV w (fun g => g < w.heap.size) (.slice ao (outP d.places (g.toks.getD k zeroTk).pos).length co) (outP d.places (g.toks.getD k zeroTk).pos)) := hPA.val.out
  have HOl : Hid ((kindP d.places (g.toks.getD k zeroTk).pos ≠ 8 → 0 < outN d.places (g.toks.getD k zeroTk).pos) ∧ outN d.places (g.toks.getD k zeroTk).pos ≤ 4096 ∧ ∀ x ∈ outP d.places (g.toks.getD k zeroTk).pos, 0 ≤ x.to ∧ x.to.toNat < d.places.length) := ⟨hout, hoL, hto⟩
  have hoo : (d.places.getD (g.toks.getD k zeroTk).pos zeroP).out.length = outN d.places (g.toks.getD k zeroTk).pos := rfl
  rw [hoo] at x4
  obtain ⟨ocap1, ocap2⟩ := HFl.out.cap
  have HJ5 : Hid _ := hj5
  have hkd : (d.places.getD (g.toks.getD k zeroTk).pos zeroP).kind = kindP d.places (g.toks.getD k zeroTk).pos := rfl
  rw [hkd] at x0
  clear hPA hd hg hout hoL hto hoo hkd hj5
  generalize hMM : MoveP w (moveM d.places s g k b) = Q at *
  generalize hPP : (g.toks.getD k zeroTk).pos = p at *
  generalize hLL : (g.toks.getD k zeroTk).plays = pl at *
  generalize ba (d.places.getD p zeroP).name = nm at *
  generalize hkk : kindP d.places p = kk at *
  generalize (d.places.getD p zeroP).n = pn at *
  generalize (d.places.getD p zeroP).arg.length = al at *
  have hoo2 : (outP d.places p).length = outN d.places p := rfl
  rw [hoo2] at ocap1 ocap2 HFl
  clear hoo2
  generalize hol : outN d.places p = ol at *
  generalize hnn : d.places.length = n at *
  generalize ba d.id = ds at *
  have tbn0 : tb ≠ w.heap.size := by omega
  have tbn1 : tb ≠ w.heap.size + 1 := by omega
  have tbl1 : tb < w.heap.size + 1 := by omega
  have tbn2 : tb ≠ w.heap.size + 1 + 1 := by omega
  have tbl2 : tb < w.heap.size + 1 + 1 := by omega
  have tbn3 : tb ≠ w.heap.size + 1 + 1 + 1 := by omega
  have tbl3 : tb < w.heap.size + 1 + 1 + 1 := by omega
  have tbn4 : tb ≠ w.heap.size + 1 + 1 + 1 + 1 := by omega
  have tbl4 : tb < w.heap.size + 1 + 1 + 1 + 1 := by omega
  have tbn5 : tb ≠ w.heap.size + 1 + 1 + 1 + 1 + 1 := by omega
  have tbl5 : tb < w.heap.size + 1 + 1 + 1 + 1 + 1 := by omega
  have tbn6 : tb ≠ w.heap.size + 1 + 1 + 1 + 1 + 1 + 1 := by omega
  have tbl6 : tb < w.heap.size + 1 + 1 + 1 + 1 + 1 + 1 := by omega
  have qbn0 : qb ≠ w.heap.size := by omega
  have qbn1 : qb ≠ w.heap.size + 1 := by omega
  have qbl1 : qb < w.heap.size + 1 := by omega
  have qbn2 : qb ≠ w.heap.size + 1 + 1 := by omega
  have qbl2 : qb < w.heap.size + 1 + 1 := by omega
  have qbn3 : qb ≠ w.heap.size + 1 + 1 + 1 := by omega
  have qbl3 : qb < w.heap.size + 1 + 1 + 1 := by omega
  have qbn4 : qb ≠ w.heap.size + 1 + 1 + 1 + 1 := by omega
  have qbl4 : qb < w.heap.size + 1 + 1 + 1 + 1 := by omega
  have qbn5 : qb ≠ w.heap.size + 1 + 1 + 1 + 1 + 1 := by omega
  have qbl5 : qb < w.heap.size + 1 + 1 + 1 + 1 + 1 := by omega
  have qbn6 : qb ≠ w.heap.size + 1 + 1 + 1 + 1 + 1 + 1 := by omega
  have qbl6 : qb < w.heap.size + 1 + 1 + 1 + 1 + 1 + 1 := by omega
  go_enter Try.func11, Try.ntmps11
  go_wp2_with (at_builtin; refine spread_int (B := w.heap.size + 1 + 1 + 1 + 1 + 1 + 1) rfl (.tmp 32) (.tmp 34) rfl (Gw.nil _ _ _ _ _) (HCm.out _ _ _ _ _ _) (by simp) rfl rfl HLc.out ?_; intro v5 w5 h5 hb5 _; rw [List.nil_append] at h5; obtain ⟨va, vc, rfl⟩ := h5.form; have Q5 := mv_begin w (.string ds, .slice (some ⟨qb, qo, none⟩) n c) (.slice (some ⟨tb, 0, none⟩) tn tc, .slice ca cn cc) (.int .i64 (p : Nat), .slice pa pl.length pc) (.int .i64 kk) (.string nm) (.int .i64 pn) (.slice aa al ca2) (.slice ao ol co) h5 hb5; obtain ⟨z0, z1, zf⟩ := Q5.1; have lz := World.block_lt_of_cell? _ _ z0; have HB : Hid (_ ∧ _ ∧ _) := Q5.2; clear Q5 h5 hb5)
  obtain ⟨hmv0, hgc0, hmb0⟩ := HB.out
  have HGc : Hid (g.came.length ≤ 1000) := hc
  have HKd : Hid (kindP d.places (g.toks.getD k zeroTk).pos = kk) := by show kindP _ _ = _; rw [hPP]; exact hkk
  have HOn : Hid (outN d.places p = ol) := hol
  have HPp : Hid ((g.toks.getD k zeroTk).pos = p ∧ (g.toks.getD k zeroTk).plays = pl) := ⟨hPP, hLL⟩
  have HQ : Hid (∀ e w', MoveP w (moveM d.places s g k b) e w' → Q e w') := fun e w' q => by rw [← hMM]; exact q
  clear hPP hLL hkk hMM hol hc x0 x1 x2 x3 x4 z0 z1 zf lz HB t0 t1 t3 HCm HLc
  clear tbn0 tbn1 tbn2 tbn3 tbn4 tbn5 tbn6 tbl1 tbl2 tbl3 tbl4 tbl5 tbl6 qbn0 qbn1 qbn2 qbn3 qbn4 qbn5 qbn6 qbl1 qbl2 qbl3 qbl4 qbl5 qbl6
  generalize w5.setCell ⟨w.heap.size + 1 + 1 + 1 + 1 + 1, 1, none⟩ (.slice va g.came.length vc) = W7 at *
  obtain ⟨M, hM⟩ : ∃ M, w.heap.size + 1 + 1 + 1 + 1 + 1 = M := ⟨_, rfl⟩
  have hdM : w.heap.size + 1 + 1 + 1 + 1 < M := by omega
  have HMb : Hid (∀ wx, Below M W7 wx → Mb w wx (.string ds, .slice (some ⟨qb, qo, none⟩) n c) (.slice (some ⟨tb, 0, none⟩) tn tc, .slice ca cn cc) (.int .i64 (p : Nat), .slice pa pl.length pc) (.int .i64 kk) (.string nm) (.int .i64 pn) (.slice aa al ca2) (.slice ao ol co)) := fun wx q => hmb0.kept (by rw [hM]; exact q)
  rw [hM] at hmv0 hgc0 ⊢
  have HM0 : Hid (Mv w W7 W7 M (.slice none 0 0) (.slice va g.came.length vc) [] g.came ∧ Gw intR 3 1 W7 (M + 1) (.slice va g.came.length vc) g.came) := ⟨hmv0, hgc0⟩
  clear hmv0 hgc0 hmb0 hM
  go_loopw [12] (fun x wr => ∃ (i : Nat), i ≤ tn ∧ x = .int .i64 i ∧ Hid (∃ vT L, Mv w W7 wr M vT (.slice va g.came.length vc) L g.came ∧ Gw intR 3 1 wr (M + 1) (.slice va g.came.length vc) g.came ∧ L.map Prod.fst = (g.toks.take i).eraseIdx k)) (fun x _ => tn - (intOf x).toNat)
  case atStart => exact ⟨0, Nat.zero_le _, rfl, _, _, HM0.out.1, HM0.out.2, by simp⟩
  case round =>
    clear HM0
    obtain ⟨i, hi, rfl, HR⟩ := hrel
    obtain ⟨vT, L, hmv, hgc, hLm⟩ := HR.out
    have HMv : Hid (Mv w W7 wr M vT (.slice va g.came.length vc) L g.came) := hmv
    have HGw : Hid (Gw intR 3 1 wr (M + 1) (.slice va g.came.length vc) g.came) := hgc
    have HLm : Hid (L.map Prod.fst = (g.toks.take i).eraseIdx k) := hLm
    have HLl : Hid (L.length ≤ 1048576) := by
      have h1 : L.length = (L.map Prod.fst).length := by simp
      have h2 := List.length_eraseIdx_le (g.toks.take i) k
      show L.length ≤ 1048576
      rw [h1, hLm]
      rw [List.length_take] at h2
      have := HTn.out
      omega
    obtain ⟨ua, uc, rfl⟩ := hmv.tk.form
    obtain ⟨m0, m1, mf⟩ := hmv.c11
    have lm : M < wr.heap.size := World.block_lt_of_cell? _ _ m0
    obtain ⟨⟨d0, d1, df⟩, ⟨g0, g1, gf⟩, ⟨r0, r1, rf⟩, ⟨q0, q1, qf⟩, ⟨p0, p1, p2, p3, p4, pf⟩⟩ := HMb.out wr hmv.hb
    clear hmv hgc hLm HR
    by_cases hlt : i < tn
    · obtain ⟨tb2, tv, e2, i0, i1, i2, i3⟩ := HG.out.tok i (by rw [HTn.out]; exact hlt)
      injection e2 with e2; injection e2 with e2 _ _
      subst e2
      have hbk := HMv.out.b.block tb lt0
      have j0 := (cell_kept hbk (i * 2)).trans i0
      have j1 := (cell_kept hbk (i * 2 + 1)).trans i1
      have ltw : tb < wr.heap.size := World.block_lt_of_cell? _ _ j0
      have HPk : Hid (Pok w wr M (.slice ua L.length uc) (.slice va g.came.length vc) (g.toks.getD i zeroTk, tv)) := ⟨i2.below HMv.out.b, fun k hk => ⟨.inl (i3 k hk), Nat.lt_of_lt_of_le (i3 k hk) HMv.out.b.size, fun q => by have := HMv.out.tk.own k q; have := i3 k hk; omega, fun q => by have := (HMv.out.co k q).1; have := i3 k hk; omega⟩⟩
      have HEt : Hid ((g.toks.take (i + 1)).eraseIdx k = if i = k then (g.toks.take i).eraseIdx k else (g.toks.take i).eraseIdx k ++ [g.toks.getD i zeroTk]) := erase_take _ _ _ (by rw [HTn.out]; exact hlt)
      obtain ⟨ia, ic, rfl, _⟩ := i2
      clear i0 i1 i3 hbk
      generalize hT : g.toks.getD i zeroTk = ti at *
      clear hT
      obtain ⟨tp, tpl⟩ := ti
      by_cases hik : i = k
      · have HEt2 : Hid ((g.toks.take (i + 1)).eraseIdx k = (g.toks.take i).eraseIdx k) := by show _ = _; rw [HEt.out, if_pos hik]
        subst hik
        go_wp2
        go_roundw
        case rel => exact ⟨i + 1, by omega, by go_num, _, L, HMv.out, HGw.out, by rw [HEt2.out]; exact HLm.out⟩
        case measure => simp [intOf]; omega
      · have HEt2 : Hid ((g.toks.take (i + 1)).eraseIdx k = (g.toks.take i).eraseIdx k ++ [⟨tp, tpl⟩]) := by show _ = _; rw [HEt.out, if_neg hik]
        have k1 : ¬ (i : Int) = (k : Int) := by omega
        have k2 : ((i : Int) == (k : Int)) = false := by rw [beq_eq_false_iff_ne]; exact k1
        have hir : (i : Int) < tn := by omega
        clear HEt
        go_wp2
        go_region_law (refine step_tok (p := tp) (l := tpl) rfl (.tmp 48) (.tmp 54) rfl HMv.out.dr.tk HMv.out.dr.hi rfl rfl rfl HLl.out ?_; intro v8 w8 h8 hg8 ho8; have G8 := HMv.out.dr.addT (HPk.out.below (Below.refl _ _).drew) h8 hg8 ho8; obtain ⟨v0, v1, v2⟩ := G8.1; have lv : M < w8.heap.size := World.block_lt_of_cell? _ _ v0; have q8 := h8.form1; obtain ⟨ya, yc, rfl⟩ := q8; have HM8 : Hid (Mv w W7 (w8.setCell ⟨M, 0, none⟩ (.slice ya (L.length + 1) yc)) M (.slice ya (L.length + 1) yc) (.slice va g.came.length vc) (L ++ [(⟨tp, tpl⟩, .slice ia tpl.length ic)]) g.came ∧ Gw intR 3 1 (w8.setCell ⟨M, 0, none⟩ (.slice ya (L.length + 1) yc)) (M + 1) (.slice va g.came.length vc) g.came) := ⟨G8.2.1, G8.2.2.2 _ (HGw.out.below intR_kept (Below.refl _ _).drew)⟩; clear G8 h8 hg8 ho8)
        all_goals (
          go_wp2
          go_roundw
          case rel => exact ⟨i + 1, by omega, by go_num, _, _, HM8.out.1, HM8.out.2, by rw [HEt2.out, List.map_append, HLm.out]; rfl⟩
          case measure => simp [intOf]; omega)
    · have HLe : Hid (L.map Prod.fst = g.toks.eraseIdx k) := by
        show _ = _
        rw [HLm.out, List.take_of_length_le (by rw [HTn.out]; omega)]
      by_cases k8 : kk = 8
      · have HE : Hid (moveM d.places s g k b = ⟨L.map Prod.fst, g.came⟩) := by
          show _ = _
          unfold moveM; rw [HKd.out, if_pos k8, HLe.out]
        subst k8
        clear HKd
        go_wp2
        obtain ⟨fa, fc, ft, fg, fb⟩ := HMv.out.tell (R := w.heap.size + 1 + 1) (by omega) (by omega) (.slice ua L.length uc) (.slice va g.came.length vc)
        injection ft with ft1 _ ft3
        subst ft1; subst ft3
        have e0 : ((wr.setCell ⟨w.heap.size + 1 + 1, 0, none⟩ (.slice ua L.length uc)).setCell ⟨w.heap.size + 1 + 1, 1, none⟩ (.slice va g.came.length vc)).cell? ⟨w.heap.size + 1 + 1, 0, none⟩ = some (.slice ua L.length uc) := cell_set (cell_set r0)
        have e1 : ((wr.setCell ⟨w.heap.size + 1 + 1, 0, none⟩ (.slice ua L.length uc)).setCell ⟨w.heap.size + 1 + 1, 1, none⟩ (.slice va g.came.length vc)).cell? ⟨w.heap.size + 1 + 1, 1, none⟩ = some (.slice va g.came.length vc) := cell_set (cell_set r1)
        try rw [Exit.noGoto_ret]
        refine bodyPost_ret (v := .agg #[.slice ua L.length uc, .slice va g.came.length vc]) (by simp [results, Try.results11, go_sem, e0, e1]) rfl ?_
        exact HQ.out _ _ ⟨_, _, _, _, _, _, rfl, by rw [HE.out]; exact fg, fb⟩
      · have ho0 : 0 < ol := HOl.out.1 k8
        have HIp : Hid (Iv wr (.slice pa pl.length pc) pl) := HPlv.out.below HMv.out.b
        have hk8b : (kk == 8) = false := by rw [beq_eq_false_iff_ne]; exact k8
        by_cases k4 : kk = 4
        · clear hk8b k8
          have HE : Hid (moveM d.places s g k b = ⟨L.map Prod.fst ++ (outP d.places p).map (fun x => ⟨x.to.toNat, pl ++ [g.came.length]⟩), g.came ++ [0]⟩) := by
            show _ = _
            unfold moveM; rw [HKd.out, if_neg (by rw [k4]; decide), if_pos k4, HLe.out, HPp.out.1, HPp.out.2]
          subst k4
          have HGl : Hid (g.came.length ≤ 1048576) := by show _ ≤ _; have := HGc.out; omega
          have HLo : Hid ((outP d.places p).length = ol) := HOn.out
          have HFa : Hid (∀ j (hj : j < (outP d.places p).length) wx, Below w.heap.size w wx → ∃ gb go ka kc, ao = some ⟨gb, go, none⟩ ∧ FlAt wx (fun g => g < w.heap.size) gb (go + j * 2) (outP d.places p)[j] ka kc) := fun j hj wx q => by
            obtain ⟨gb, go, ka, kc, e1, e2, e3⟩ := HFl.out.at j hj
            rw [getD_memF hj] at e3
            exact ⟨gb, go, ka, kc, e1, e3.kept e2 (kept_base q fun g hg => hg)⟩
          clear HKd HFl
          go_wp2_with (first
            | (at_builtin; have := HM9; refine list_int2 (y := 0) (B := M + 1) rfl (.tmp 72) (.tmp 73) rfl HM9.out.2.2 HM9.out.1.hi rfl rfl rfl HGl.out ?_; intro vA wA hA hgA hoA; have GA := HM9.out.1.addC HM9.out.2.2 hA hgA hoA; obtain ⟨v0, v1, v2⟩ := GA.1; have lv : M < wA.heap.size := World.block_lt_of_cell? _ _ v0; have qA := hA.form1; obtain ⟨ya, yc, rfl⟩ := qA; have HMA : Hid (Mv w W7 (wA.setCell ⟨M, 1, none⟩ (.slice ya (g.came.length + 1) yc)) M (.slice ua L.length uc) (.slice ya (g.came.length + 1) yc) L (g.came ++ [0]) ∧ Pok w (wA.setCell ⟨M, 1, none⟩ (.slice ya (g.came.length + 1) yc)) M (.slice ua L.length uc) (.slice ya (g.came.length + 1) yc) (⟨p, pl⟩, .slice xa pl.length xc)) := ⟨GA.2.1, GA.2.2 _ HM9.out.2.1⟩; clear GA hA hgA hoA)
            | (at_builtin; refine spread_int (B := wr.heap.size) rfl (.tmp 61) (.tmp 63) rfl (Gw.nil _ _ _ _ _) HIp.out (Nat.le_refl _) rfl rfl HLp.out ?_; intro v9 w9 h9 hb9 _; rw [List.nil_append] at h9; obtain ⟨xa, xc, rfl⟩ := h9.form; have HM9 : Hid (Mv w W7 w9 M (.slice ua L.length uc) (.slice va g.came.length vc) L g.came ∧ Pok w w9 M (.slice ua L.length uc) (.slice va g.came.length vc) (⟨p, pl⟩, .slice xa pl.length xc) ∧ Gw intR 3 1 w9 (M + 1) (.slice va g.came.length vc) g.came) := ⟨HMv.out.below hb9, pok_new HMv.out h9 hb9, HGw.out.below intR_kept hb9⟩; obtain ⟨m0, m1, mf⟩ := HM9.out.1.c11; have lm : M < w9.heap.size := World.block_lt_of_cell? _ _ m0; obtain ⟨⟨d0, d1, df⟩, ⟨g0, g1, gf⟩, ⟨r0, r1, rf⟩, ⟨q0, q1, qf⟩, ⟨p0, p1, p2, p3, p4, pf⟩⟩ := HMb.out w9 HM9.out.1.hb; clear h9 hb9))
          generalize wA.setCell ⟨M, 1, none⟩ (.slice ya (g.came.length + 1) yc) = wB at *
          clear v0 v1 v2 lv m0 m1 mf lm d0 d1 df g0 g1 gf r0 r1 rf q0 q1 qf p0 p1 p2 p3 p4 pf
          generalize hoP : outP d.places p = outs at *
          clear hoP
          have HL0 : Hid (L.length ≤ 1000) := by
            have h1 : L.length = (L.map Prod.fst).length := by simp
            have h2 := List.length_eraseIdx_le g.toks k
            have h3 := HTn.out
            show L.length ≤ 1000
            rw [h1, HLe.out]; omega
          go_loopw [15] (fun x wr => ∃ (j : Nat), j ≤ ol ∧ x = .int .i64 j ∧ Hid (∃ vT L2, Mv w W7 wr M vT (.slice ya (g.came.length + 1) yc) L2 (g.came ++ [0]) ∧ Pok w wr M vT (.slice ya (g.came.length + 1) yc) (⟨p, pl⟩, .slice xa pl.length xc) ∧ L2.map Prod.fst = L.map Prod.fst ++ (outs.take j).map (fun x => ⟨x.to.toNat, pl ++ [g.came.length]⟩))) (fun x _ => ol - (intOf x).toNat)
          case atStart => exact ⟨0, Nat.zero_le _, rfl, _, L, HMA.out.1, HMA.out.2, by simp⟩
          case round =>
            clear HMA
            obtain ⟨j, hj, rfl, HR2⟩ := hrel
            obtain ⟨vT, L2, hmv, hpk, hLm2⟩ := HR2.out
            have HMv2 : Hid (Mv w W7 wr M vT (.slice ya (g.came.length + 1) yc) L2 (g.came ++ [0])) := hmv
            have HPk2 : Hid (Pok w wr M vT (.slice ya (g.came.length + 1) yc) (⟨p, pl⟩, .slice xa pl.length xc)) := hpk
            have HLm2 : Hid (L2.map Prod.fst = L.map Prod.fst ++ (outs.take j).map (fun x => ⟨x.to.toNat, pl ++ [g.came.length]⟩)) := hLm2
            have HLl2 : Hid (L2.length ≤ 1048576) := by
              have h1 : L2.length = (L2.map Prod.fst).length := by simp
              have h3 := HL0.out
              have h4 := HLo.out
              have h5 := HOl.out.2.1
              show L2.length ≤ 1048576
              rw [h1, hLm2, List.length_append, List.length_map, List.length_map, List.length_take]; omega
            obtain ⟨ta2, tc2, rfl⟩ := hmv.tk.form
            obtain ⟨m0, m1, mf⟩ := hmv.c11
            have lm : M < wr.heap.size := World.block_lt_of_cell? _ _ m0
            obtain ⟨⟨d0, d1, df⟩, ⟨g0, g1, gf⟩, ⟨r0, r1, rf⟩, ⟨q0, q1, qf⟩, ⟨p0, p1, p2, p3, p4, pf⟩⟩ := HMb.out wr hmv.hb
            clear hmv hpk hLm2 HR2
            by_cases hjl : j < ol
            · have hjo : j < outs.length := by rw [HLo.out]; exact hjl
              obtain ⟨gb, go, ka, kc, rfl, hFl0⟩ := HFa.out j hjo w (Below.refl _ _)
              have f0 := hFl0.c0
              have hgb : gb < w.heap.size := World.block_lt_of_cell? _ _ f0
              obtain ⟨ht1, ht2⟩ := HOl.out.2.2 _ (List.getElem_mem hjo)
              obtain ⟨t, hte⟩ : ∃ t : Nat, outs[j].to = (t : Int) := ⟨_, (Int.toNat_of_nonneg ht1).symm⟩
              have HTk : Hid ((outs.take (j + 1)).map (fun x => (⟨x.to.toNat, pl ++ [g.came.length]⟩ : Tk)) = (outs.take j).map (fun x => ⟨x.to.toNat, pl ++ [g.came.length]⟩) ++ [⟨t, pl ++ [g.came.length]⟩]) := by
                show _ = _
                rw [List.take_add_one, List.getElem?_eq_getElem hjo, List.map_append]
                simp [hte]
              rw [hte] at f0
              have HPi : Hid (Iv wr (.slice xa pl.length xc) pl) := HPk2.out.1
              have HL16 : Hid (pl.length ≤ 1048576) := by show _ ≤ _; omega
              have hjr : (j : Int) < ol := by omega
              clear hFl0 ht1 ht2 hte HFa
              go_wp2_with (first
                | (at_builtin; have := HI1; refine list_int2 (y := g.came.length) (B := wr.heap.size) rfl (.tmp 86) (.tmp 88) rfl HI1.out.1 HI1.out.2.size rfl rfl rfl HL16.out ?_; intro vI wI hI hgI hoI; have qI := hI.form1; obtain ⟨ia, ic, rfl⟩ := qI; have hbI : Below wr.heap.size wr wI := (HI1.out.2.alloc HI1.out.2.size _).grown hgI (Nat.le_trans HI1.out.2.size (le_alloc _ _)) HI1.out.1.own; have HI2 : Hid (Mv w W7 wI M (.slice ta2 L2.length tc2) (.slice ya (g.came.length + 1) yc) L2 (g.came ++ [0]) ∧ Pok w wI M (.slice ta2 L2.length tc2) (.slice ya (g.came.length + 1) yc) (⟨t, pl ++ [g.came.length]⟩, .slice ia (pl.length + 1) ic) ∧ Pok w wI M (.slice ta2 L2.length tc2) (.slice ya (g.came.length + 1) yc) (⟨p, pl⟩, .slice xa pl.length xc)) := ⟨HMv2.out.below hbI, pok_new HMv2.out hI hbI, HPk2.out.below hbI⟩; obtain ⟨m0, m1, mf⟩ := HI2.out.1.c11; have lm : M < wI.heap.size := World.block_lt_of_cell? _ _ m0; obtain ⟨⟨d0, d1, df⟩, ⟨g0, g1, gf⟩, ⟨r0, r1, rf⟩, ⟨q0, q1, qf⟩, ⟨p0, p1, p2, p3, p4, pf⟩⟩ := HMb.out wI HI2.out.1.hb; have f9 := (cell_kept (HI2.out.1.b.block gb hgb) _).trans f0; have lf9 : gb < wI.heap.size := World.block_lt_of_cell? _ _ f9; clear hI hgI hoI hbI HI1)
                | (at_builtin; refine spread_int (B := wr.heap.size) rfl (.tmp 83) (.tmp 84) rfl (Gw.nil _ _ _ _ _) HPi.out (Nat.le_refl _) rfl rfl HLp.out ?_; intro v9 w9 h9 hb9 _; rw [List.nil_append] at h9; obtain ⟨sa, sc, rfl⟩ := h9.form; have HI1 : Hid (Gw intR 3 1 w9 wr.heap.size (.slice sa pl.length sc) pl ∧ Below wr.heap.size wr w9) := ⟨h9, hb9⟩; clear h9 hb9))
              go_region_law (refine step_tok (p := t) (l := pl ++ [g.came.length]) rfl (.tmp 91) (.tmp 100) rfl HI2.out.1.dr.tk HI2.out.1.dr.hi rfl rfl rfl HLl2.out ?_; intro v8 w8 h8 hg8 ho8; have G8 := HI2.out.1.dr.addT (HI2.out.2.1.below (Below.refl _ _).drew) h8 hg8 ho8; obtain ⟨v0, v1, v2⟩ := G8.1; have lv : M < w8.heap.size := World.block_lt_of_cell? _ _ v0; have q8 := h8.form1; obtain ⟨za, zc, rfl⟩ := q8; have HM8 : Hid (Mv w W7 (w8.setCell ⟨M, 0, none⟩ (.slice za (L2.length + 1) zc)) M (.slice za (L2.length + 1) zc) (.slice ya (g.came.length + 1) yc) (L2 ++ [(⟨t, pl ++ [g.came.length]⟩, .slice ia (pl.length + 1) ic)]) (g.came ++ [0]) ∧ Pok w (w8.setCell ⟨M, 0, none⟩ (.slice za (L2.length + 1) zc)) M (.slice za (L2.length + 1) zc) (.slice ya (g.came.length + 1) yc) (⟨p, pl⟩, .slice xa pl.length xc)) := ⟨G8.2.1, G8.2.2.1 _ (HI2.out.2.2.below (Below.refl _ _).drew)⟩; clear G8 h8 hg8 ho8)
              all_goals (
                go_wp2
                go_roundw
                case rel => exact ⟨j + 1, by omega, by go_num, _, _, HM8.out.1, HM8.out.2, by rw [HTk.out, List.map_append, HLm2.out, List.append_assoc]; rfl⟩
                case measure => simp [intOf]; omega)
            · have HE2 : Hid (moveM d.places s g k b = ⟨L2.map Prod.fst, g.came ++ [0]⟩) := by
                show _ = _
                rw [HE.out, HLm2.out, List.take_of_length_le (by rw [HLo.out]; omega)]
              clear HFa
              go_wp2
              obtain ⟨fa, fc, ft, fg, fb⟩ := HMv2.out.tell (R := w.heap.size + 1 + 1) (by omega) (by omega) (.slice ta2 L2.length tc2) (.slice ya (g.came.length + 1) yc)
              injection ft with ft1 ft2 ft3
              subst ft1; subst ft3
              have e0 : ((wr.setCell ⟨w.heap.size + 1 + 1, 0, none⟩ (.slice ta2 L2.length tc2)).setCell ⟨w.heap.size + 1 + 1, 1, none⟩ (.slice ya (g.came.length + 1) yc)).cell? ⟨w.heap.size + 1 + 1, 0, none⟩ = some (.slice ta2 L2.length tc2) := cell_set (cell_set r0)
              have e1 : ((wr.setCell ⟨w.heap.size + 1 + 1, 0, none⟩ (.slice ta2 L2.length tc2)).setCell ⟨w.heap.size + 1 + 1, 1, none⟩ (.slice ya (g.came.length + 1) yc)).cell? ⟨w.heap.size + 1 + 1, 1, none⟩ = some (.slice ya (g.came.length + 1) yc) := cell_set (cell_set r1)
              try rw [Exit.noGoto_ret]
              refine bodyPost_ret (v := .agg #[.slice ta2 L2.length tc2, .slice ya (g.came.length + 1) yc]) (by simp [results, Try.results11, go_sem, e0, e1]) rfl ?_
              exact HQ.out _ _ ⟨_, _, _, _, _, _, rfl, by rw [HE2.out]; exact fg, fb⟩
        · have hk4b : (kk == 4) = false := by rw [beq_eq_false_iff_ne]; exact k4
          by_cases k5 : kk = 5
          · clear hk8b hk4b
            have hJ := HJ5.out k5
            obtain ⟨hJ1, hJ2, hJ3, hJ4, hJ5⟩ := hJ
            obtain ⟨m, hm⟩ : ∃ m, pl.length = m + 1 := ⟨pl.length - 1, by have := List.length_pos_iff.mpr hJ1; omega⟩
            have hlp : lastP pl = pl.getD m 0 := by unfold lastP; rw [hm]; rfl
            obtain ⟨q, hq⟩ : ∃ q, lastP pl = q := ⟨_, rfl⟩
            obtain ⟨cq, hcq⟩ : ∃ cq, g.came.getD q 0 = cq := ⟨_, rfl⟩
            obtain ⟨f, hf⟩ : ∃ f, s.fk.getD p 0 = f := ⟨_, rfl⟩
            rw [hq] at hJ2 hJ3 hlp
            rw [hcq] at hJ3
            rw [hf] at hJ4 hJ5
            have HF24 : Hid (∀ wx, Below w.heap.size w wx → Calls Try.prog 24 #[.agg #[.string ds, .slice (some ⟨qb, qo, none⟩) n c], .int .i64 (p : Nat)] wx fun e w' => ∃ g2 m c2, e = .returned (.slice (some ⟨g2, 0, none⟩) (m + 1) c2) ∧ w'.cell? ⟨g2, m, none⟩ = some (.int .i64 (f : Nat)) ∧ m + 1 ≤ c2 ∧ c2 ≤ 9223372036854775807 ∧ m ≤ 16 ∧ Below wx.heap.size wx w') := hJ5
            obtain ⟨x, hx⟩ : ∃ x, cq + 1 = x := ⟨_, rfl⟩
            have hx2 : ((cq : Nat) : Int) + 1 = (x : Int) := by omega
            have HE1 : Hid (moveM d.places s g k b = if x < outN d.places f then ⟨L.map Prod.fst, g.came.set q x⟩ else ⟨L.map Prod.fst ++ [⟨toK d.places p b, pl.dropLast⟩], g.came.set q x⟩) := by
              show _ = _
              unfold moveM; rw [HKd.out, if_neg k8, if_neg k4, if_pos k5, HLe.out, HPp.out.1, HPp.out.2, hq, hcq, hf, hx]
            have HCq : Hid (∀ wx, Gw intR 3 1 wx (M + 1) (.slice va g.came.length vc) g.came → ∃ gc, va = some ⟨gc, 0, none⟩ ∧ wx.cell? ⟨gc, q, none⟩ = some (.int .i64 (cq : Nat)) ∧ wx.frozen? ⟨gc, q, none⟩ = false) := fun wx hw => by
              obtain ⟨gc, c9, e1, _, _, e2⟩ := hw.int_at hJ2
              rw [hcq] at e2
              have h3 := hw.free (g := gc) (by rw [e1]; rfl) q
              injection e1 with e1 _ _
              exact ⟨gc, e1, e2, h3⟩
            obtain ⟨gc, rfl, _, _⟩ := HCq.out wr HGw.out
            have HCq2 : Hid (∀ wx, Gw intR 3 1 wx (M + 1) (.slice (some ⟨gc, 0, none⟩) g.came.length vc) g.came → wx.cell? ⟨gc, q, none⟩ = some (.int .i64 (cq : Nat)) ∧ wx.frozen? ⟨gc, q, none⟩ = false) := fun wx hw => by
              obtain ⟨gc2, e1, e2⟩ := HCq.out wx hw
              injection e1 with e1; injection e1 with e1 _ _
              subst e1; exact e2
            obtain ⟨qb2, qo2, aa2, ca3, ao2, co2, e9, hq9, hPA2⟩ := HPs.out.v.at f (by rw [HPs.out.len]; exact hJ4)
            injection e9 with e9; injection e9 with e91 e92 _
            subst e91; subst e92
            have x4f : w.cell? ⟨qb, qo + f * 5 + 4, none⟩ = some (.slice ao2 (outN d.places f) co2) := hPA2.c4
            obtain ⟨fol, hfol⟩ : ∃ fol, outN d.places f = fol := ⟨_, rfl⟩
            rw [hfol] at x4f HE1
            have hfl : fol ≤ 9223372036854775807 := by
              have h8 := hPA2.val.out.cap.2
              have h9 : (d.places.getD f zeroP).out.length = fol := hfol
              omega
            have HDl : Hid (Iv wr (.slice pa pl.length pc) pl ∧ pl.dropLast.length = m) := ⟨HIp.out, by rw [List.length_dropLast, hm]; rfl⟩
            have hm16 : m ≤ 16 := by have := HPls.out; omega
            have HMl : Hid (pl.length = m + 1) := hm
            have HQl : Hid (pl.getD m 0 = q) := hlp.symm
            have hJ2b : (q : Int) < g.came.length := by omega
            subst k5
            clear HJ5 hJ1 hJ5 hlp hq hcq hf hx hPA2 HCq hfol HKd k8 k4
            rw [hm] at q1
            have HIp2 : Hid (Iv wr (.slice pa (m + 1) pc) pl) := by have := HDl.out.1; rw [hm] at this; exact this
            clear hm HIp HDl
            go_wp2_with (first
              | (go_at_call 24; have := HMs; refine (HF24.out _ HMs.out.1.b).mono ?_; rintro e w24 ⟨fg, fm, fcp, rfl, y1, y2, y3, y4, y5⟩; have HM4 : Hid (Mv w W7 w24 M (.slice ua L.length uc) (.slice (some ⟨gc, 0, none⟩) g.came.length vc) L (g.came.set q x) ∧ Pok w w24 M (.slice ua L.length uc) (.slice (some ⟨gc, 0, none⟩) g.came.length vc) (⟨p, pl.dropLast⟩, .slice (some ⟨xg, 0, none⟩) m xc)) := ⟨HMs.out.1.below y5, HMs.out.2.below y5⟩; obtain ⟨m0, m1, mf⟩ := HM4.out.1.c11; have lm : M < w24.heap.size := World.block_lt_of_cell? _ _ m0; obtain ⟨⟨d0, d1, df⟩, ⟨g0, g1, gf⟩, ⟨r0, r1, rf⟩, ⟨q0, q1, qf⟩, ⟨p0, p1, p2, p3, p4, pf⟩⟩ := HMb.out w24 HM4.out.1.hb; have xf := (cell_kept (HM4.out.1.b.block qb lx) _).trans x4f; have lxf : qb < w24.heap.size := World.block_lt_of_cell? _ _ xf; have lfg : fg < w24.heap.size := World.block_lt_of_cell? _ _ y1; have yc := came_at HM4.out.1 HQq.out; have lyc : gc < w24.heap.size := World.block_lt_of_cell? _ _ yc; clear y5 HMs)
              | (at_builtin; refine spread_int (B := wr.heap.size) rfl (.tmp 61) (.tmp 63) rfl (Gw.nil _ _ _ _ _) HIp2.out (Nat.le_refl _) rfl rfl HLp.out ?_; intro v9 w9 h9 hb9 _; rw [List.nil_append] at h9; obtain ⟨xg, xc, e9, xcl1, xcl2, xq⟩ := h9.int_at (i := m) (by rw [HMl.out]; exact Nat.lt_succ_self _); rw [HMl.out] at e9 xcl1; subst e9; rw [HQl.out] at xq; have lxq : xg < w9.heap.size := World.block_lt_of_cell? _ _ xq; have hg9 := HGw.out.below intR_kept hb9; obtain ⟨yq, yfz⟩ := HCq2.out w9 hg9; have lyq : gc < w9.heap.size := World.block_lt_of_cell? _ _ yq; have hS := (HMv.out.below hb9).setC (q := q) (x := x) rfl hJ2; have HMs : Hid (Mv w W7 (w9.setCell ⟨gc, q, none⟩ (.int .i64 (x : Nat))) M (.slice ua L.length uc) (.slice (some ⟨gc, 0, none⟩) g.came.length vc) L (g.came.set q x) ∧ Pok w (w9.setCell ⟨gc, q, none⟩ (.int .i64 (x : Nat))) M (.slice ua L.length uc) (.slice (some ⟨gc, 0, none⟩) g.came.length vc) (⟨p, pl.dropLast⟩, .slice (some ⟨xg, 0, none⟩) m xc)) := ⟨hS.1, hS.2 _ ((pok_new (p := p) HMv.out h9 hb9).cut HMl.out)⟩; have HQq : Hid (q < g.came.length ∧ (g.came.set q x).getD q 0 = x) := ⟨hJ2, by rw [set_at hJ2, if_pos rfl]⟩; obtain ⟨m0, m1, mf⟩ := (HMv.out.below hb9).c11; have lm : M < w9.heap.size := World.block_lt_of_cell? _ _ m0; obtain ⟨⟨d0, d1, df⟩, ⟨g0, g1, gf⟩, ⟨r0, r1, rf⟩, ⟨q0, q1, qf⟩, ⟨p0, p1, p2, p3, p4, pf⟩⟩ := HMb.out w9 (HMv.out.below hb9).hb; have hgcM : M < gc := (HMv.out.co gc rfl).1; have hgcn : w.heap.size ≠ gc := (by omega); have hgcn3 : w.heap.size + 1 + 1 + 1 ≠ gc := (by omega); clear h9 hb9 hg9 hS))
            by_cases hmore : x < fol
            · have hmr : (x : Int) < (fol : Int) := by omega
              have HE : Hid (moveM d.places s g k b = ⟨L.map Prod.fst, g.came.set q x⟩) := by show _ = _; rw [HE1.out, if_pos hmore]
              go_quiet (fail)
              have HM5 : Hid (Mv w W7 (w24.drewN nq) M (.slice ua L.length uc) (.slice (some ⟨gc, 0, none⟩) g.came.length vc) L (g.came.set q x) ∧ Pok w (w24.drewN nq) M (.slice ua L.length uc) (.slice (some ⟨gc, 0, none⟩) g.came.length vc) (⟨p, pl.dropLast⟩, .slice (some ⟨xg, 0, none⟩) m xc)) := ⟨HM4.out.1.drN nq, HM4.out.2.below (below_drewN (Below.refl _ _) nq)⟩
              generalize w24.drewN nq = wD at *
              clear m0 m1 mf lm d0 d1 df g0 g1 gf r0 r1 rf q0 q1 qf p0 p1 p2 p3 p4 pf xf lxf lfg yc lyc y1 HM4
              obtain ⟨m0, m1, mf⟩ := HM5.out.1.c11
              have lm : M < wD.heap.size := World.block_lt_of_cell? _ _ m0
              obtain ⟨⟨d0, d1, df⟩, ⟨g0, g1, gf⟩, ⟨r0, r1, rf⟩, ⟨q0, q1, qf⟩, ⟨p0, p1, p2, p3, p4, pf⟩⟩ := HMb.out wD HM5.out.1.hb
              go_wp2
              obtain ⟨fa, fc, ft, fg2, fb⟩ := HM5.out.1.tell (R := w.heap.size + 1 + 1) (by omega) (by omega) (.slice ua L.length uc) (.slice (some ⟨gc, 0, none⟩) g.came.length vc)
              injection ft with ft1 ft2 ft3
              subst ft1; subst ft3
              have e0 : ((wD.setCell ⟨w.heap.size + 1 + 1, 0, none⟩ (.slice ua L.length uc)).setCell ⟨w.heap.size + 1 + 1, 1, none⟩ (.slice (some ⟨gc, 0, none⟩) g.came.length vc)).cell? ⟨w.heap.size + 1 + 1, 0, none⟩ = some (.slice ua L.length uc) := cell_set (cell_set r0)
              have e1 : ((wD.setCell ⟨w.heap.size + 1 + 1, 0, none⟩ (.slice ua L.length uc)).setCell ⟨w.heap.size + 1 + 1, 1, none⟩ (.slice (some ⟨gc, 0, none⟩) g.came.length vc)).cell? ⟨w.heap.size + 1 + 1, 1, none⟩ = some (.slice (some ⟨gc, 0, none⟩) g.came.length vc) := cell_set (cell_set r1)
              try rw [Exit.noGoto_ret]
              refine bodyPost_ret (v := .agg #[.slice ua L.length uc, .slice (some ⟨gc, 0, none⟩) g.came.length vc]) (by simp [results, Try.results11, go_sem, e0, e1]) rfl ?_
              exact HQ.out _ _ ⟨_, _, _, _, _, _, rfl, by rw [HE.out]; exact fg2, fb⟩
            · have hmr : ¬ (x : Int) < (fol : Int) := by omega
              have hmr2 : (fol : Int) ≤ (x : Int) := by omega
              obtain ⟨j, hj⟩ : ∃ j, b % ol = j := ⟨_, rfl⟩
              have hjo : j < ol := by rw [← hj]; exact Nat.mod_lt _ ho0
              have hr1 : ((b : Nat) : Int) % ((ol : Nat) : Int) = (j : Int) := by rw [← hj]; rfl
              have hr2 : Int.tmod ((b : Nat) : Int) ((ol : Nat) : Int) = (j : Int) := by rw [Int.tmod_eq_emod_of_nonneg (by omega)]; exact hr1
              have hol0 : ¬ ((ol : Nat) : Int) = 0 := by omega
              have hol1 : ¬ ol = 0 := by omega
              obtain ⟨gb, go, ka, kc, rfl, hgb, hFl⟩ := HFl.out.at j (by rw [show (outP d.places p).length = ol from HOn.out]; exact hjo)
              have f0 := hFl.c0
              have hjm : (outP d.places p).getD j zeroF ∈ outP d.places p := by
                have h1 : j < (outP d.places p).length := by rw [show (outP d.places p).length = ol from HOn.out]; exact hjo
                rw [List.getD_eq_getElem?_getD, List.getElem?_eq_getElem h1]; exact List.getElem_mem h1
              obtain ⟨ht1, ht2⟩ := HOl.out.2.2 _ hjm
              have HE : Hid (moveM d.places s g k b = ⟨L.map Prod.fst ++ [⟨((outP d.places p).getD j zeroF).to.toNat, pl.dropLast⟩], g.came.set q x⟩) := by
                show _ = _
                rw [HE1.out, if_neg hmore]
                unfold toK; rw [HOn.out, hj]
              obtain ⟨t, hte⟩ : ∃ t : Nat, ((outP d.places p).getD j zeroF).to = (t : Int) := ⟨_, (Int.toNat_of_nonneg ht1).symm⟩
              rw [hte] at f0 HE
              rw [Int.toNat_natCast] at HE
              clear hFl hjm ht1 ht2 hte hj
              go_quiet (fail)
              have HM5 : Hid (Mv w W7 (w24.drewN nq) M (.slice ua L.length uc) (.slice (some ⟨gc, 0, none⟩) g.came.length vc) L (g.came.set q x) ∧ Pok w (w24.drewN nq) M (.slice ua L.length uc) (.slice (some ⟨gc, 0, none⟩) g.came.length vc) (⟨p, pl.dropLast⟩, .slice (some ⟨xg, 0, none⟩) m xc)) := ⟨HM4.out.1.drN nq, HM4.out.2.below (below_drewN (Below.refl _ _) nq)⟩
              generalize w24.drewN nq = wD at *
              clear m0 m1 mf lm d0 d1 df g0 g1 gf r0 r1 rf q0 q1 qf p0 p1 p2 p3 p4 pf xf lxf lfg yc lyc y1 HM4
              obtain ⟨m0, m1, mf⟩ := HM5.out.1.c11
              have lm : M < wD.heap.size := World.block_lt_of_cell? _ _ m0
              obtain ⟨⟨d0, d1, df⟩, ⟨g0, g1, gf⟩, ⟨r0, r1, rf⟩, ⟨q0, q1, qf⟩, ⟨p0, p1, p2, p3, p4, pf⟩⟩ := HMb.out wD HM5.out.1.hb
              have f9 := (cell_kept (HM5.out.1.b.block gb hgb) _).trans f0
              have lf9 : gb < wD.heap.size := World.block_lt_of_cell? _ _ f9
              go_wp2
              go_region_law (refine step_tok (p := t) (l := pl.dropLast) rfl (.tmp 149) (.tmp 162) rfl HM5.out.1.dr.tk HM5.out.1.dr.hi rfl rfl rfl HLl.out ?_; intro v8 w8 h8 hg8 ho8; have G8 := HM5.out.1.dr.addT (HM5.out.2.below (Below.refl _ _).drew).pos h8 hg8 ho8; obtain ⟨v0, v1, v2⟩ := G8.1; have lv : M < w8.heap.size := World.block_lt_of_cell? _ _ v0; have q8 := h8.form1; obtain ⟨ya, yc, rfl⟩ := q8; have HM8 : Hid (Mv w W7 (w8.setCell ⟨M, 0, none⟩ (.slice ya (L.length + 1) yc)) M (.slice ya (L.length + 1) yc) (.slice (some ⟨gc, 0, none⟩) g.came.length vc) (L ++ [(⟨t, pl.dropLast⟩, .slice (some ⟨xg, 0, none⟩) m xc)]) (g.came.set q x)) := G8.2.1; clear G8 h8 hg8 ho8)
              all_goals (
                generalize w8.setCell ⟨M, 0, none⟩ (.slice ya (L.length + 1) yc) = w10 at *
                clear v0 v1 v2 lv m0 m1 mf lm d0 d1 df g0 g1 gf r0 r1 rf q0 q1 qf p0 p1 p2 p3 p4 pf f9 lf9
                obtain ⟨m0, m1, mf⟩ := HM8.out.c11
                have lm : M < w10.heap.size := World.block_lt_of_cell? _ _ m0
                obtain ⟨_, _, ⟨r0, r1, rf⟩, _, _⟩ := HMb.out w10 HM8.out.hb
                go_wp2
                obtain ⟨fa, fc, ft, fg2, fb⟩ := HM8.out.tell (R := w.heap.size + 1 + 1) (by omega) (by omega) (.slice ya (L.length + 1) yc) (.slice (some ⟨gc, 0, none⟩) g.came.length vc)
                injection ft with ft1 ft2 ft3
                subst ft1; subst ft3
                have e0 : ((w10.setCell ⟨w.heap.size + 1 + 1, 0, none⟩ (.slice ya (L.length + 1) yc)).setCell ⟨w.heap.size + 1 + 1, 1, none⟩ (.slice (some ⟨gc, 0, none⟩) g.came.length vc)).cell? ⟨w.heap.size + 1 + 1, 0, none⟩ = some (.slice ya (L.length + 1) yc) := cell_set (cell_set r0)
                have e1 : ((w10.setCell ⟨w.heap.size + 1 + 1, 0, none⟩ (.slice ya (L.length + 1) yc)).setCell ⟨w.heap.size + 1 + 1, 1, none⟩ (.slice (some ⟨gc, 0, none⟩) g.came.length vc)).cell? ⟨w.heap.size + 1 + 1, 1, none⟩ = some (.slice (some ⟨gc, 0, none⟩) g.came.length vc) := cell_set (cell_set r1)
                try rw [Exit.noGoto_ret]
                refine bodyPost_ret (v := .agg #[.slice ya (L.length + 1) yc, .slice (some ⟨gc, 0, none⟩) g.came.length vc]) (by simp [results, Try.results11, go_sem, e0, e1]) rfl ?_
                exact HQ.out _ _ ⟨_, _, _, _, _, _, rfl, by rw [HE.out]; rw [List.length_append, List.map_append] at fg2; exact fg2, fb⟩)
          · have hk5b : (kk == 5) = false := by rw [beq_eq_false_iff_ne]; exact k5
            obtain ⟨j, hj⟩ : ∃ j, b % ol = j := ⟨_, rfl⟩
            have hjo : j < ol := by rw [← hj]; exact Nat.mod_lt _ ho0
            have hr1 : ((b : Nat) : Int) % ((ol : Nat) : Int) = (j : Int) := by rw [← hj]; rfl
            have hr2 : Int.tmod ((b : Nat) : Int) ((ol : Nat) : Int) = (j : Int) := by rw [Int.tmod_eq_emod_of_nonneg (by omega)]; exact hr1
            have hol0 : ¬ ((ol : Nat) : Int) = 0 := by omega
            have hol1 : ¬ ol = 0 := by omega
            obtain ⟨gb, go, ka, kc, rfl, hgb, hFl⟩ := HFl.out.at j (by rw [show (outP d.places p).length = ol from HOn.out]; exact hjo)
            have f0 := hFl.c0
            have hjm : (outP d.places p).getD j zeroF ∈ outP d.places p := by
              have h1 : j < (outP d.places p).length := by rw [show (outP d.places p).length = ol from HOn.out]; exact hjo
              rw [List.getD_eq_getElem?_getD, List.getElem?_eq_getElem h1]; exact List.getElem_mem h1
            obtain ⟨ht1, ht2⟩ := HOl.out.2.2 _ hjm
            have HE : Hid (moveM d.places s g k b = ⟨L.map Prod.fst ++ [⟨((outP d.places p).getD j zeroF).to.toNat, pl⟩], g.came⟩) := by
              show _ = _
              unfold moveM; rw [HKd.out, if_neg k8, if_neg k4, if_neg k5, HLe.out, HPp.out.1, HPp.out.2]
              unfold toK; rw [HOn.out, hj]
            obtain ⟨t, hte⟩ : ∃ t : Nat, ((outP d.places p).getD j zeroF).to = (t : Int) := ⟨_, (Int.toNat_of_nonneg ht1).symm⟩
            rw [hte] at f0 HE
            rw [Int.toNat_natCast] at HE
            clear hFl hjm ht1 ht2 hte hj
            go_wp2_with (at_builtin; refine spread_int (B := wr.heap.size) rfl (.tmp 61) (.tmp 63) rfl (Gw.nil _ _ _ _ _) HIp.out (Nat.le_refl _) rfl rfl HLp.out ?_; intro v9 w9 h9 hb9 _; rw [List.nil_append] at h9; obtain ⟨xa, xc, rfl⟩ := h9.form; have HM9 : Hid (Mv w W7 w9 M (.slice ua L.length uc) (.slice va g.came.length vc) L g.came ∧ Pok w w9 M (.slice ua L.length uc) (.slice va g.came.length vc) (⟨p, pl⟩, .slice xa pl.length xc)) := ⟨HMv.out.below hb9, pok_new HMv.out h9 hb9⟩; obtain ⟨m0, m1, mf⟩ := HM9.out.1.c11; have lm : M < w9.heap.size := World.block_lt_of_cell? _ _ m0; obtain ⟨⟨d0, d1, df⟩, ⟨g0, g1, gf⟩, ⟨r0, r1, rf⟩, ⟨q0, q1, qf⟩, ⟨p0, p1, p2, p3, p4, pf⟩⟩ := HMb.out w9 HM9.out.1.hb; have f9 := (cell_kept (HM9.out.1.b.block gb hgb) _).trans f0; have lf9 : gb < w9.heap.size := World.block_lt_of_cell? _ _ f9; clear h9 hb9)
            go_region_law (refine step_tok (p := t) (l := pl) rfl (.tmp 149) (.tmp 162) rfl HM9.out.1.dr.tk HM9.out.1.dr.hi rfl rfl rfl HLl.out ?_; intro v8 w8 h8 hg8 ho8; have G8 := HM9.out.1.dr.addT (HM9.out.2.below (Below.refl _ _).drew).pos h8 hg8 ho8; obtain ⟨v0, v1, v2⟩ := G8.1; have lv : M < w8.heap.size := World.block_lt_of_cell? _ _ v0; have q8 := h8.form1; obtain ⟨ya, yc, rfl⟩ := q8; have HM8 : Hid (Mv w W7 (w8.setCell ⟨M, 0, none⟩ (.slice ya (L.length + 1) yc)) M (.slice ya (L.length + 1) yc) (.slice va g.came.length vc) (L ++ [(⟨t, pl⟩, .slice xa pl.length xc)]) g.came) := G8.2.1; clear G8 h8 hg8 ho8)
            all_goals (
              generalize w8.setCell ⟨M, 0, none⟩ (.slice ya (L.length + 1) yc) = w10 at *
              clear v0 v1 v2 lv m0 m1 mf lm d0 d1 df g0 g1 gf r0 r1 rf q0 q1 qf p0 p1 p2 p3 p4 pf f9 lf9
              obtain ⟨m0, m1, mf⟩ := HM8.out.c11
              have lm : M < w10.heap.size := World.block_lt_of_cell? _ _ m0
              obtain ⟨_, _, ⟨r0, r1, rf⟩, _, _⟩ := HMb.out w10 HM8.out.hb
              go_wp2
              obtain ⟨fa, fc, ft, fg, fb⟩ := HM8.out.tell (R := w.heap.size + 1 + 1) (by omega) (by omega) (.slice ya (L.length + 1) yc) (.slice va g.came.length vc)
              injection ft with ft1 ft2 ft3
              subst ft1; subst ft3
              have e0 : ((w10.setCell ⟨w.heap.size + 1 + 1, 0, none⟩ (.slice ya (L.length + 1) yc)).setCell ⟨w.heap.size + 1 + 1, 1, none⟩ (.slice va g.came.length vc)).cell? ⟨w.heap.size + 1 + 1, 0, none⟩ = some (.slice ya (L.length + 1) yc) := cell_set (cell_set r0)
              have e1 : ((w10.setCell ⟨w.heap.size + 1 + 1, 0, none⟩ (.slice ya (L.length + 1) yc)).setCell ⟨w.heap.size + 1 + 1, 1, none⟩ (.slice va g.came.length vc)).cell? ⟨w.heap.size + 1 + 1, 1, none⟩ = some (.slice va g.came.length vc) := cell_set (cell_set r1)
              try rw [Exit.noGoto_ret]
              refine bodyPost_ret (v := .agg #[.slice ya (L.length + 1) yc, .slice va g.came.length vc]) (by simp [results, Try.results11, go_sem, e0, e1]) rfl ?_
              exact HQ.out _ _ ⟨_, _, _, _, _, _, rfl, by rw [HE.out]; rw [List.length_append, List.map_append] at fg; exact fg, fb⟩)
end Go.Proofs.Ytlaiacjlphjmlaa
