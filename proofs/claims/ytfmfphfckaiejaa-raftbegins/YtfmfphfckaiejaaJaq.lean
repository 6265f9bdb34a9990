/-
  The program's send: its contract.
-/
import Derived.Test.YtfmfphfckaiejaaJao
namespace Go.Proofs.Ytfmfphfckaiejaa
section
open Go.RowKit
set_option linter.unusedVariables false


theorem sent {w wX w3 : World} {B M : Nat} {s : Ad} {m : Mb} {v v' : Value} {ts ts' : List Ms} (hW : Wk w B M s m v ts) (hb : Below w.heap.size w wX) (hG : Gr msR 79 w3 B (Ns B M) v' ts') (hg : wX.grownBy w3 v.ownBlock) (ho : v'.ownBlock = v.ownBlock ∨ v'.ownBlock = some wX.heap.size) : Wc w3 M s m v ∧ Wk (w3.setCell ⟨M, 16, none⟩ v') B M s m v' ts' ∧ Dn B M v v' w (w3.setCell ⟨M, 16, none⟩ v') := by
  have hM := hW.lt
  have hs := hb.size
  have ho2 : ∀ g, g < w.heap.size → v'.ownBlock = some g → v.ownBlock = some g := fun g hlt e => by
    rcases ho with q | q
    · rw [← q]; exact e
    · rw [q] at e; injection e with e; omega
  have same : ∀ g, g < w.heap.size → v.ownBlock ≠ some g → w3.heap[g]? = w.heap[g]? := fun g hlt hne => (hg.block g (by omega) (fun e => hne e.symm)).trans (hb.block g hlt)
  have hc : Wc w3 M s m v := hW.c.kept (same M hM hW.om)
  have hom : v'.ownBlock ≠ some M := fun e => hW.om (ho2 M hM e)
  have hbel : Below B w (w3.setCell ⟨M, 16, none⟩ v') := ((hb.mono hW.le).grown hg (by have := hW.le; omega) (fun k hk => (hW.o.own k hk).1)).setCell hW.bm _
  refine ⟨hc, ⟨hc.put 16 v', hW.r.kept fun g hp hlt => ⟨(heap_other hp.1.1).trans (same g hlt hp.1.2), ⟨hp.1.1, fun e => hp.1.2 (ho2 g hlt e)⟩, hp.2⟩, hG.kept (fun g hg2 => heap_other fun e => hom (by rw [hg2, e])) (fun g hg2 _ _ => ⟨heap_other hg2.1, hg2⟩), hW.bm, hom⟩, hbel, fun g hlt hp => (heap_other hp.1).trans (same g hlt hp.2), ho2⟩
set_option maxRecDepth 100000 in
set_option maxHeartbeats 800000 in
theorem send_any {w : World} {B M : Nat} {s : Ad} {m : Mb} {v : Value} {ts : List Ms} (hW : Wk w B M s m v ts) (to : Int) (ax : Ax) (x : Ms) (hX : MsV w (Pw B M v) ax x) (hl : ts.length ≤ 1000) : Calls Try.prog 79 #[.pointer (some ⟨M, 0, none⟩), .int .i64 to, msA ax x] w fun e w' => e = .returned (.tuple #[]) ∧ ∃ v', Wk w' B M s m v' (ts ++ [{ x with frm := m.id, to := to }]) ∧ Dn B M v v' w w' := by
  have HW : Hid (Wk w B M s m v ts) := hW
  have hM := hW.lt
  have hown := hW.o.own
  obtain ⟨bx, hbx⟩ : ∃ bx, Obj.cells (msCells ax { x with frm := m.id, to := to }).toArray 79 = bx := ⟨_, rfl⟩
  have HB : Hid (Below w.heap.size w ((w.alloc bx).alloc bx).drew) := (below2 w bx bx).drew
  have HG : Hid (Gr msR 79 ((w.alloc bx).alloc bx).drew B (Ns B M) v ts) := hW.o.below HB.out
  have HE : Hid (RwV msR ((w.alloc bx).alloc bx).drew (Pw B M v) (some ⟨w.heap.size + 1, 0, none⟩) 1 [{ x with frm := m.id, to := to }]) := by
    have hX2 : MsV w (Pw B M v) ax { x with frm := m.id, to := to } := ⟨hX.e, hX.d, hX.dP⟩
    have := RwV.one (r := msR) (t := 79) (w := w.alloc bx) (P := Pw B M v) (g := w.heap.size + 1) (size_alloc _ _).symm ⟨⟨by omega, fun e => by have := (hown _ e).2; omega⟩, by have := hW.bm; omega⟩ ⟨ax, rfl, hX2.below ((Below.refl _ _).alloc (Nat.le_refl _) bx)⟩
    rw [hbx] at this
    exact this.below (Below.refl _ _).drew
  have HL : Hid (B ≤ ((w.alloc bx).alloc bx).drew.heap.size) := Nat.le_trans hW.le HB.out.size
  have HLn : Hid (ts.length + 1 ≤ 1048576) := by show _ ≤ _; omega
  have HS : Hid (∀ v' w3, Gr msR 79 w3 B (Ns B M) v' (ts ++ [{ x with frm := m.id, to := to }]) → ((w.alloc bx).alloc bx).drew.grownBy w3 v.ownBlock → (v'.ownBlock = v.ownBlock ∨ v'.ownBlock = some ((w.alloc bx).alloc bx).drew.heap.size) → Wc w3 M s m v ∧ Wk (w3.setCell ⟨M, 16, none⟩ v') B M s m v' (ts ++ [{ x with frm := m.id, to := to }]) ∧ Dn B M v v' w (w3.setCell ⟨M, 16, none⟩ v')) := fun v' w3 q1 q2 q3 => sent hW HB.out q1 q2 q3
  obtain ⟨va, vc, hv⟩ := hW.o.form
  subst hv
  obtain ⟨c0, c1, c2, c3, c4, c5, c6, c7, c8, c9, c10, c11, c12, c13, c14, c15, c16, cf⟩ := hW.c
  subst hbx
  clear hW hX hown
  generalize hts : ts ++ [{ x with frm := m.id, to := to }] = ts' at *
  unfold msA
  go_enter Try.func79, Try.ntmps79
  go_wp2
  go_region_law (refine step_appR tyMs (by decide) rfl _ _ rfl HG.out HE.out rfl (fun g hg _ => ⟨⟨hg.1.1, hg.2⟩, hg.1.2⟩) HL.out rfl rfl HLn.out ?_; rw [hts]; intro v3 w3 q1 q2 q3; have HD := HS.out v3 w3 q1 q2 q3; have HF : Hid (Wk (w3.setCell ⟨M, 16, none⟩ v3) B M s m v3 ts' ∧ Dn B M (.slice va ts.length vc) v3 w (w3.setCell ⟨M, 16, none⟩ v3)) := HD.2; obtain ⟨va3, vc3, hv3⟩ := q1.form; subst hv3; obtain ⟨d0, d1, d2, d3, d4, d5, d6, d7, d8, d9, d10, d11, d12, d13, d14, d15, d16, df⟩ := HD.1; clear HD q1 q2 q3)
  all_goals (
    go_wp2
    first | (refine bodyPost_end (results_none rfl _ _ _) rfl ?_) | (refine bodyPost_ret (results_none rfl _ _ _) rfl ?_)
    exact ⟨rfl, _, HF.out⟩)
end
section
open Go.RowKit
set_option linter.unusedVariables false


def intR : Rdr Int where
  k := 1
  z := 0
  R w P us x := us = [.int .i64 x] ∧ InR x
  kpos := by decide
  kept := fun h _ => h
  len := fun h => by rw [h.1]; rfl
  one := fun h => by rw [h.1]; intro u hu; rw [List.mem_singleton.1 hu]; rfl
theorem infoInt : (Try.prog.info? 3).map (fun i => (i.zero, i.size, i.bytes)) = some (some (.int .i64 0), 1, 8) := by kernel_rfl
theorem tyInt : TyOk intR 29 3 8 := ⟨Try.underlying29, by
  obtain ⟨i, h1, h2, h3, h4⟩ := info_parts infoInt
  exact ⟨i, _, h1, h2, h3, h4, rfl⟩⟩
theorem RwV.ints {w : World} {P : Nat → Prop} {a : Option Addr} {c : Nat} {l : List Int} (h : RwV intR w P a c l) : IlV w a c l := by
  obtain ⟨h1, h2, h3, h4⟩ := h
  refine ⟨⟨by rw [List.length_map]; exact h1, h2, h3, ?_⟩, fun i hi => ?_⟩
  · by_cases h0 : l.length = 0
    · left; rw [List.length_map]; exact h0
    · obtain ⟨b, o, us, ⟨rfl, _⟩, _⟩ := h4 0 (by omega)
      refine .inr ⟨b, o, rfl, fun i hi => ?_⟩
      rw [List.length_map] at hi
      obtain ⟨b2, o2, us, ⟨e, _⟩, q2, q3⟩ := h4 i hi
      cases e
      have := q2 0 (by decide)
      rw [q3.1, List.getD_eq_getElem?_getD, List.getElem?_eq_getElem hi] at this
      rw [List.getElem?_map, List.getElem?_eq_getElem hi]
      have e2 : o + i * intR.k + 0 = o + i := by show o + i * 1 + 0 = _; omega
      rw [e2] at this
      exact this
  · obtain ⟨b2, o2, us, _, q2, q3⟩ := h4 i hi
    exact q3.2
theorem RwV.pv {α : Type} {r : Rdr α} {w : World} {P : Nat → Prop} {a : Option Addr} {c : Nat} {l : List α} (h : RwV r w P a c l) : PV P a l.length := fun h0 x hx => by
  obtain ⟨b, o, us, ⟨e, hp⟩, _⟩ := h.2.2.2 0 (by omega)
  rw [e] at hx
  cases hx
  exact hp
/-- The others, up to k. -/
def othM (id : Int) : Nat → List Int
  | 0 => []
  | k + 1 => othM id k ++ (if (k : Int) + 1 = id then [] else [(k : Int) + 1])
theorem oth_to (id : Int) (f : Int → Ms) : ∀ k, toM id f k = (othM id k).map f
  | 0 => rfl
  | k + 1 => by
    show toM id f k ++ _ = (othM id k ++ _).map f
    rw [List.map_append, oth_to id f k]
    split <;> rfl
theorem oth_len (id : Int) : ∀ k, (othM id k).length ≤ k
  | 0 => Nat.le_refl _
  | k + 1 => by
    have := oth_len id k
    show (othM id k ++ _).length ≤ _
    rw [List.length_append]
    split <;> simp <;> omega
theorem oth_mem {id : Int} : ∀ {k : Nat} {x : Int}, x ∈ othM id k → 1 ≤ x ∧ x ≤ k ∧ x ≠ id
  | 0, x, h => by cases h
  | k + 1, x, h => by
    rcases List.mem_append.1 h with h | h
    · have := oth_mem h; omega
    · split at h
      · cases h
      · have := List.mem_singleton.1 h; omega
set_option maxRecDepth 100000 in
set_option maxHeartbeats 800000 in
theorem others_any {w : World} {B M : Nat} {s : Ad} {m : Mb} {v : Value} {ts : List Ms} (hW : Wk w B M s m v ts) (n : Nat) (hn : m.n = n) (hn2 : n ≤ 100) : Calls Try.prog 62 #[.pointer (some ⟨M, 0, none⟩)] w fun e w' => ∃ a c, e = .returned (.slice a (othM m.id n).length c) ∧ IlV w' a c (othM m.id n) ∧ PV (fun g => w.heap.size ≤ g) a (othM m.id n).length ∧ Below w.heap.size w w' := by
  have hM := hW.lt
  have HCl : Hid (∀ w1, Below w.heap.size w w1 → Wc w1 M s m v) := fun w1 q => hW.c.below q
  clear hW
  generalize hid : m.id = id at *
  have HS : Hid (∀ k : Nat, othM id (k + 1) = othM id k ++ (if (k : Int) + 1 = id then [] else [(k : Int) + 1])) := fun k => rfl
  have HLe : Hid (∀ k : Nat, (othM id k).length ≤ k) := oth_len id
  go_enter Try.func62, Try.ntmps62
  go_wp2
  go_loopw [3, 4] (fun x y wr => ∃ k : Nat, k ≤ n ∧ y = .int .i64 ((k : Int) + 1) ∧ Hid (Below w.heap.size w wr ∧ Gr intR 3 wr w.heap.size (fun g => w.heap.size ≤ g) x (othM id k))) (fun x y _ => n + 1 - (intOf y).toNat)
  case atStart => exact ⟨0, Nat.zero_le _, rfl, Below.refl _ _, Gr.nil _ _ _ _ _⟩
  case round =>
    obtain ⟨k, hk, rfl, HR⟩ := hrel
    obtain ⟨d0, d1, d2, d3, d4, d5, d6, d7, d8, d9, d10, d11, d12, d13, d14, d15, d16, df⟩ := (HCl.out wr HR.out.1)
    rw [hid] at d0
    rw [hn] at d1
    by_cases hlt : k < n
    · by_cases he : (k : Int) + 1 = id
      · have HQ : Hid (othM id (k + 1) = othM id k) := by show _ = _; rw [HS.out, if_pos he, List.append_nil]
        have he2 : ((k : Int) + 1 == id) = true := by simp [he]
        clear he
        go_wp2
        go_roundw
        case rel => exact ⟨k + 1, by omega, by go_num, HR.out.1, by rw [HQ.out]; exact HR.out.2⟩
        case measure => simp [intOf]; omega
      · have HQ : Hid (othM id (k + 1) = othM id k ++ [(k : Int) + 1]) := by show _ = _; rw [HS.out, if_neg he]
        have hL := HLe.out k
        have hk3 : InR ((k : Int) + 1) := ⟨by omega, by omega⟩
        have HE : Hid (RwV intR (wr.alloc (.cells #[.int .i64 ((k : Int) + 1)] 3)) (fun g => wr.heap.size ≤ g) (some ⟨wr.heap.size, 0, none⟩) 1 [(k : Int) + 1]) := RwV.one (r := intR) (us := [.int .i64 ((k : Int) + 1)]) rfl (Nat.le_refl _) ⟨rfl, hk3⟩
        have HG : Hid (Gr intR 3 (wr.alloc (.cells #[.int .i64 ((k : Int) + 1)] 3)) w.heap.size (fun g => w.heap.size ≤ g) u3 (othM id k)) := HR.out.2.below ((Below.refl _ _).alloc (Nat.le_refl _) _)
        have HP : Hid (∀ g, wr.heap.size ≤ g → g < (wr.alloc (.cells #[.int .i64 ((k : Int) + 1)] 3)).heap.size → w.heap.size ≤ g ∧ u3.ownBlock ≠ some g) := fun g hg _ => ⟨Nat.le_trans HR.out.1.size hg, fun e => by have := (HR.out.2.own g e).2; omega⟩
        have HB : Hid (w.heap.size ≤ (wr.alloc (.cells #[.int .i64 ((k : Int) + 1)] 3)).heap.size) := Nat.le_trans HR.out.1.size (le_alloc _ _)
        have HLn : Hid ((othM id k).length + 1 ≤ 1048576) := by show _ ≤ _; omega
        have HT : Hid (∀ v' w', Gr intR 3 w' w.heap.size (fun g => w.heap.size ≤ g) v' (othM id k ++ [(k : Int) + 1]) → (wr.alloc (.cells #[.int .i64 ((k : Int) + 1)] 3)).grownBy w' u3.ownBlock → Below w.heap.size w w' ∧ Gr intR 3 w' w.heap.size (fun g => w.heap.size ≤ g) v' (othM id (k + 1))) := fun v' w' q1 q2 => ⟨(HR.out.1.alloc HR.out.1.size _).grown q2 HB.out (fun j hj => (HR.out.2.own j hj).1), by rw [HQ.out]; exact q1⟩
        have he2 : ((k : Int) + 1 == id) = false := beq_eq_false_iff_ne.2 he
        clear hk3 hL
        go_wp2_with (refine list_appR tyInt (by decide) rfl _ _ rfl HG.out HE.out rfl HP.out HB.out rfl rfl HLn.out ?_; intro v' w' q1 q2 q3; have HF : Hid (Below w.heap.size w w' ∧ Gr intR 3 w' w.heap.size (fun g => w.heap.size ≤ g) v' (othM id (k + 1))) := HT.out v' w' q1 q2; clear q1 q2 q3)
        go_roundw
        case rel => exact ⟨k + 1, by omega, by go_num, HF.out⟩
        case measure => simp [intOf]; omega
    · obtain rfl : k = n := by omega
      obtain ⟨ra, rc, e5⟩ := HR.out.2.form
      subst e5
      have HF : Hid (IlV wr ra rc (othM id k) ∧ PV (fun g => w.heap.size ≤ g) ra (othM id k).length ∧ Below w.heap.size w wr) := ⟨HR.out.2.reads.2.ints, (HR.out.2.reads.2.sub (Q := fun g => w.heap.size ≤ g) fun g hg _ => hg.elim (fun q => q) (fun q => q)).pv, HR.out.1⟩
      clear HR
      generalize hol : (othM id k).length = ol at HF ⊢
      go_wp2
      go_ret
      exact ⟨ra, rc, by rw [hol]; rfl, by rw [hol]; exact HF.out⟩
end
end Go.Proofs.Ytfmfphfckaiejaa
