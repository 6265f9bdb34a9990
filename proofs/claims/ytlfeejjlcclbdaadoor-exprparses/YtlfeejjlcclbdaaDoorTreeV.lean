/-
  The document's Tree: a sign between two sides.
-/
import Derived.Test.YtlfeejjlcclbdaaDoorTreeW
import Derived.Test.YtlfeejjlcclbdaaDoorSide
import Derived.Deep.RegionHeld3
namespace Go.Proofs.YtlfeejjlcclbdaaDoor
open Go.RowKit
set_option linter.unusedVariables false


/-- A block's cells. -/
def RowC (w : World) (g : Nat) (vs : Array Value) : Prop := ∀ i v, vs[i]? = some v → w.cell? ⟨g, i, none⟩ = some v
theorem RowC.new (w : World) (vs : Array Value) (t : TypeId) : RowC (w.alloc (.cells vs t)) w.heap.size vs := fun i v h => by
  rw [cell_of_row _ _ _ _ t (0, 0) (heap_alloc_new w (.cells vs t))]; exact h
theorem RowC.lt {w : World} {g : Nat} {vs : Array Value} (h : RowC w g vs) (hs : 0 < vs.size) : g < w.heap.size := World.block_lt_of_cell? w _ (h 0 _ (Array.getElem?_eq_getElem hs))
theorem RowC.below {w w' : World} {g : Nat} {vs : Array Value} (h : RowC w g vs) (hb : Below w.heap.size w w') : RowC w' g vs := fun i v hv => by
  have := h i v hv
  exact (hb.cell (p := ⟨g, i, none⟩) (World.block_lt_of_cell? _ _ this)).trans this
theorem RowC.set {w : World} {g : Nat} {vs : Array Value} (h : RowC w g vs) {p : Addr} (hp : g ≠ p.block) (x : Value) : RowC (w.setCell p x) g vs := fun i v hv => by
  have e := Below.heap_setCell w p x g hp
  have := h i v hv
  simp only [World.cell?] at this ⊢
  rw [e]; exact this
theorem tpost_node2 {w w2 : World} {k : Int} (hk : InR k) {g : Nat} (hg : w.heap.size < g) {yk yn : Int} {ys : ByteArray} {ya : Option Addr} {yl yc : Nat} {zk zn : Int} {zs : ByteArray} {za : Option Addr} {zl zc : Nat} {t1 t2 : Tr}
    (hy : Tre w2 (fun g => w.heap.size < g) (.agg #[.int .i64 yk, .int .i64 yn, .string ys, .slice ya yl yc]) t1) (hz : Tre w2 (fun g => w.heap.size < g) (.agg #[.int .i64 zk, .int .i64 zn, .string zs, .slice za zl zc]) t2)
    (hr : RowC w2 g #[.int .i64 yk, .int .i64 yn, .string ys, .slice ya yl yc, .int .i64 zk, .int .i64 zn, .string zs, .slice za zl zc]) (hb : Below w.heap.size w w2) :
    TPost w ⟨k, 0, [], [t1, t2]⟩ (.returned (.agg #[.int .i64 k, .int .i64 0, .string ⟨#[]⟩, .slice (some ⟨g, 0, none⟩) 2 2])) w2 :=
  ⟨⟨_, _, _, _, _, _, rfl, (Tre.node2 hk hy hz hg (hr 0 _ rfl) (hr 1 _ rfl) (hr 2 _ rfl) (hr 3 _ rfl) (hr 4 _ rfl) (hr 5 _ rfl) (hr 6 _ rfl) (hr 7 _ rfl)).sub fun g hg => Nat.le_of_lt hg⟩, hb⟩
/-- What stands while the node is made. -/
structure TwoN (w w' : World) (b o : Nat) (l : List W) (g1 g2 : Nat) (yk yn : Int) (ys : ByteArray) (ya : Option Addr) (yl yc : Nat) (zk zn : Int) (zs : ByteArray) (za : Option Addr) (zl zc : Nat) (t1 t2 : Tr) : Prop where
  lie : Lie w' b o l
  zero : Zero4 w' w.heap.size
  y : Cell4 w' g1 (.int .i64 yk) (.int .i64 yn) (.string ys) (.slice ya yl yc)
  z : Cell4 w' g2 (.int .i64 zk) (.int .i64 zn) (.string zs) (.slice za zl zc)
  ty : Tre w' (fun g => w.heap.size < g) (.agg #[.int .i64 yk, .int .i64 yn, .string ys, .slice ya yl yc]) t1
  tz : Tre w' (fun g => w.heap.size < g) (.agg #[.int .i64 zk, .int .i64 zn, .string zs, .slice za zl zc]) t2
  bel : Below w.heap.size w w'
theorem TwoN.below {w w' w'' : World} {b o : Nat} {l : List W} {g1 g2 : Nat} {yk yn : Int} {ys : ByteArray} {ya : Option Addr} {yl yc : Nat} {zk zn : Int} {zs : ByteArray} {za : Option Addr} {zl zc : Nat} {t1 t2 : Tr}
    (h : TwoN w w' b o l g1 g2 yk yn ys ya yl yc zk zn zs za zl zc t1 t2) (hb : Below w'.heap.size w' w'') : TwoN w w'' b o l g1 g2 yk yn ys ya yl yc zk zn zs za zl zc t1 t2 :=
  ⟨h.lie.below hb, h.zero.below hb, h.y.below hb, h.z.below hb, h.ty.below hb, h.tz.below hb, h.bel.trans (hb.mono h.bel.size)⟩
set_option maxRecDepth 100000 in
set_option maxHeartbeats 1000000 in
theorem tree_two (l : List W) (hlen : l.length ≤ 4096) (b o cap : Nat) (hcap : l.length ≤ cap) (k : Nat) (hk1 : 1 ≤ k) (hk : k + 1 < l.length) (w : World) (HL : Hid (Lie w b o l)) (t1 t2 : Tr)
    (HS : Hid (∀ w, Lie w b o l → Calls Tryd.prog 34 #[.slice (some ⟨b, o, none⟩) l.length cap] w fun e w' => e = .returned (.int .i64 k) ∧ Below w.heap.size w w'))
    (HT1 : Hid (∀ w, Lie w b o (l.take k) → Calls Tryd.prog 22 #[.slice (some ⟨b, o, none⟩) k cap] w (TPost w t1)))
    (HT2 : Hid (∀ w, Lie w b (o + (k + 1) * 4) (l.drop (k + 1)) → Calls Tryd.prog 22 #[.slice (some ⟨b, o + (k + 1) * 4, none⟩) (l.length - (k + 1)) (cap - (k + 1))] w (TPost w t2)))
    (HK : Hid (∀ w, Calls Tryd.prog 33 #[.agg #[.int .i64 (atL l k).kind, .string (ba (atL l k).text), .int .i64 (atL l k).n, .int .i64 (atL l k).pos]] w fun e w' => e = .returned (.int .i64 (kindW (atL l k))) ∧ Below w.heap.size w w')) :
    Calls Tryd.prog 22 #[.slice (some ⟨b, o, none⟩) l.length cap] w (TPost w ⟨kindW (atL l k), 0, [], [t1, t2]⟩) := by
  have hc1 : ¬ cap = k + 1 := by omega
  have hc2 : ¬ cap - (k + 1) = 0 := by omega
  go_enter Tryd.func22, Tryd.ntmps22
  go_wp2_with (first
    | (go_at_call 22; have := HD1; refine (HT2.out _ ((HL2.out.alloc _).drop _)).mono ?_; rintro e w3 ⟨⟨zk, zn, zs, za, zl, zc, rfl, HTr⟩, HB⟩; have HL3 : Hid (Lie w3 b o l) := (HL2.out.alloc _).below HB; have HZ3 : Hid (Zero4 w3 w.heap.size) := (HZ2.out.alloc _).below HB; have HY3 : Hid (Tre w3 (fun g => w.heap.size < g) (.agg #[.int .i64 yk, .int .i64 yn, .string ys, .slice ya yl yc]) t1) := (HY2.out.alloc _).below HB; have HC3 : Hid (Cell4 w3 w2.heap.size (.int .i64 yk) (.int .i64 yn) (.string ys) (.slice ya yl yc)) := (Cell4.new w2 _ _ _ _ 25).below HB; have HX3 : Hid (Tre w3 (fun g => w.heap.size < g) (.agg #[.int .i64 zk, .int .i64 zn, .string zs, .slice za zl zc]) t2) := HTr.sub (fun g hg => Nat.lt_of_lt_of_le (HZ2.out.alloc _).lt hg); have hs3 : w.heap.size < w2.heap.size ∧ w2.heap.size < w3.heap.size := ⟨HZ2.out.lt, HC3.out.lt⟩; have HB3 : Hid (Below w.heap.size w w3) := (HB2.out.alloc HB2.out.size _).trans (HB.mono (HB2.out.alloc HB2.out.size _).size); clear HB HTr)
    | (go_at_call 22; refine (HT1.out _ (HL1.out.take _)).mono ?_; rintro e w2 ⟨⟨yk, yn, ys, ya, yl, yc, rfl, HTr⟩, HB⟩; have HL2 : Hid (Lie w2 b o l) := HL1.out.below HB; have HZ2 : Hid (Zero4 w2 w.heap.size) := HZ1.out.below HB; have HB2 : Hid (Below w.heap.size w w2) := HB1.out.trans (HB.mono HB1.out.size); have HY2 : Hid (Tre w2 (fun g => w.heap.size < g) (.agg #[.int .i64 yk, .int .i64 yn, .string ys, .slice ya yl yc]) t1) := HTr.sub (fun g hg => Nat.lt_of_lt_of_le HZ1.out.lt hg); have HD1 : Hid True := trivial; clear HB HTr)
    | (go_at_call 34; refine (HS.out _ (HL.out.alloc _)).mono ?_; rintro e w1 ⟨rfl, HB⟩; have HL1 : Hid (Lie w1 b o l) := (HL.out.alloc _).below HB; have HZ1 : Hid (Zero4 w1 w.heap.size) := (Cell4.new w _ _ _ _ 25).below HB; have HB1 : Hid (Below w.heap.size w w1) := ((Below.refl _ _).alloc (Nat.le_refl _) _).trans (HB.mono (by rw [size_alloc]; omega)); clear HB))
  obtain ⟨w4, hw4⟩ : ∃ w4, w4 = w3.alloc (.cells #[.int .i64 zk, .int .i64 zn, .string zs, .slice za zl zc] 25) := ⟨_, rfl⟩
  rw [← hw4]
  have H4 : Hid (TwoN w w4 b o l w2.heap.size w3.heap.size yk yn ys ya yl yc zk zn zs za zl zc t1 t2) := by
    rw [hw4]
    exact ⟨HL3.out.alloc _, HZ3.out.alloc _, HC3.out.alloc _, Cell4.new w3 _ _ _ _ 25, HY3.out.alloc _, HX3.out.alloc _, HB3.out.alloc HB3.out.size _⟩
  have HQ : Hid (∀ W, Below w4.heap.size w4 W → TwoN w W b o l w2.heap.size w3.heap.size yk yn ys ya yl yc zk zn zs za zl zc t1 t2) := fun W h => H4.out.below h
  clear hw4 HL1 HL2 HL3 HZ1 HZ2 HZ3 HB1 HB2 HB3 HY2 HY3 HC3 HX3 HD1 HS HT1 HT2
  obtain ⟨x0, x1, x2, x3⟩ := H4.out.lie k (by omega)
  obtain ⟨q0, q1, q2, q3, q4⟩ := H4.out.zero
  obtain ⟨y0, y1, y2, y3, y4⟩ := H4.out.y
  obtain ⟨z0, z1, z2, z3, z4⟩ := H4.out.z
  have hn1 := H4.out.zero.lt
  have hn2 := H4.out.y.lt
  have hn3 := H4.out.z.lt
  have hbl : b < w4.heap.size := World.block_lt_of_cell? w4 _ x0
  have hkk : k < l.length := by omega
  have hb0 : b < w.heap.size := World.block_lt_of_cell? w _ (HL.out k hkk).c0
  have hn0 := hn1
  have hkw : kindW (atL l k) ≤ 14 := by have h0 := nextK_range [atL l k]; have e : nextK [atL l k] = kindW (atL l k) := rfl; omega
  have hne1 : ¬ b = w.heap.size := by omega
  have hne2 : ¬ w2.heap.size = w.heap.size := by omega
  have hne3 : ¬ w3.heap.size = w.heap.size := by omega
  have hne4 : ¬ w.heap.size = b := by omega
  have hne5 : ¬ w.heap.size = w2.heap.size := by omega
  have hne6 : ¬ w.heap.size = w3.heap.size := by omega
  go_region_held3 (fun w' => w'.cell? ⟨b, o + k * 4, none⟩ = some (.int .i64 (atL l k).kind) ∧ w'.cell? ⟨b, o + k * 4 + 1, none⟩ = some (.string (ba (atL l k).text)) ∧ w'.cell? ⟨b, o + k * 4 + 2, none⟩ = some (.int .i64 (atL l k).n) ∧ w'.cell? ⟨b, o + k * 4 + 3, none⟩ = some (.int .i64 (atL l k).pos) ∧ w'.cell? ⟨w2.heap.size, 0, none⟩ = some (.int .i64 yk) ∧ w'.cell? ⟨w2.heap.size, 1, none⟩ = some (.int .i64 yn) ∧ w'.cell? ⟨w2.heap.size, 2, none⟩ = some (.string ys) ∧ w'.cell? ⟨w2.heap.size, 3, none⟩ = some (.slice ya yl yc) ∧ w'.cell? ⟨w3.heap.size, 0, none⟩ = some (.int .i64 zk) ∧ w'.cell? ⟨w3.heap.size, 1, none⟩ = some (.int .i64 zn) ∧ w'.cell? ⟨w3.heap.size, 2, none⟩ = some (.string zs) ∧ w'.cell? ⟨w3.heap.size, 3, none⟩ = some (.slice za zl zc)) (go_keep) (first
    | (go_at_call 33; refine (HK.out _).mono ?_; rintro e w5 ⟨rfl, HB⟩; have HB5 : Hid (Below w4.heap.size w4 w5) := (Below.drew (Below.refl _ w4)).trans HB; obtain ⟨x0, x1, x2, x3⟩ := (HQ.out _ HB5.out).lie k hkk; obtain ⟨q0, q1, q2, q3, q4⟩ := (HQ.out _ HB5.out).zero; obtain ⟨y0, y1, y2, y3, y4⟩ := (HQ.out _ HB5.out).y; obtain ⟨z0, z1, z2, z3, z4⟩ := (HQ.out _ HB5.out).z; have hn1 := (HQ.out _ HB5.out).zero.lt; have hn2 := (HQ.out _ HB5.out).y.lt; have hn3 := (HQ.out _ HB5.out).z.lt; clear HB)
    | (go_at_call 33; refine (HK.out _).mono ?_; rintro e w5 ⟨rfl, HB⟩; have HB5 : Hid (Below w4.heap.size w4 w5) := (Below.drew ((Below.refl _ w4).alloc (Nat.le_refl _) _)).trans (HB.mono (by show w4.heap.size ≤ (w4.alloc _).heap.size; rw [size_alloc]; exact Nat.le_succ _)); have HRo : Hid (RowC w5 w4.heap.size #[.int .i64 yk, .int .i64 yn, .string ys, .slice ya yl yc, .int .i64 zk, .int .i64 zn, .string zs, .slice za zl zc]) := (show RowC (w4.alloc _).drew w4.heap.size _ from RowC.new w4 _ 25).below HB; obtain ⟨x0, x1, x2, x3⟩ := (HQ.out _ HB5.out).lie k hkk; obtain ⟨q0, q1, q2, q3, q4⟩ := (HQ.out _ HB5.out).zero; obtain ⟨y0, y1, y2, y3, y4⟩ := (HQ.out _ HB5.out).y; obtain ⟨z0, z1, z2, z3, z4⟩ := (HQ.out _ HB5.out).z; have hn1 := (HQ.out _ HB5.out).zero.lt; have hn2 := (HQ.out _ HB5.out).y.lt; have hn3 := (HQ.out _ HB5.out).z.lt; clear HB))
  all_goals go_wp2_with fail
  all_goals first
    | (have := HRo
       refine bodyPost_ret (v := .agg #[.int .i64 (kindW (atL l k)), .int .i64 0, .string ⟨#[]⟩, .slice (some ⟨w4.heap.size, 0, none⟩) 2 2]) (by simp [results, Tryd.results22, go_sem, q0, q1, q2, q3]) rfl ?_
       have T := HQ.out _ HB5.out
       have hg : w4.heap.size ≠ w.heap.size := by omega
       exact tpost_node2 ⟨by omega, by omega⟩ hn0 ((((T.ty.set (Nat.lt_irrefl _) _).set (Nat.lt_irrefl _) _).set (Nat.lt_irrefl _) _).set (Nat.lt_irrefl _) _) ((((T.tz.set (Nat.lt_irrefl _) _).set (Nat.lt_irrefl _) _).set (Nat.lt_irrefl _) _).set (Nat.lt_irrefl _) _) ((((HRo.out.set hg _).set hg _).set hg _).set hg _) ((((T.bel.setCell (Nat.le_refl _) _).setCell (Nat.le_refl _) _).setCell (Nat.le_refl _) _).setCell (Nat.le_refl _) _))
    | (refine bodyPost_ret (v := .agg #[.int .i64 (kindW (atL l k)), .int .i64 0, .string ⟨#[]⟩, .slice (some ⟨w5.heap.size, 0, none⟩) 2 2]) (by simp [results, Tryd.results22, go_sem, q0, q1, q2, q3, hn1]) rfl ?_
       have T := HQ.out _ HB5.out
       have hB := ((((T.bel.setCell (p := ⟨w.heap.size, 0, none⟩) (Nat.le_refl _) (.int .i64 (kindW (atL l k)))).setCell (p := ⟨w.heap.size, 1, none⟩) (Nat.le_refl _) (.int .i64 0)).setCell (p := ⟨w.heap.size, 2, none⟩) (Nat.le_refl _) (.string ⟨#[]⟩)).setCell (p := ⟨w.heap.size, 3, none⟩) (Nat.le_refl _) (.slice (some ⟨w5.heap.size, 0, none⟩) 2 2))
       refine tpost_node2 ⟨by omega, by omega⟩ hn1 ((((((T.ty.set (Nat.lt_irrefl _) _).set (Nat.lt_irrefl _) _).set (Nat.lt_irrefl _) _).set (Nat.lt_irrefl _) _)).alloc _) ((((((T.tz.set (Nat.lt_irrefl _) _).set (Nat.lt_irrefl _) _).set (Nat.lt_irrefl _) _).set (Nat.lt_irrefl _) _)).alloc _) ?_ (hB.alloc hB.size _)
       have hr := RowC.new ((((w5.setCell ⟨w.heap.size, 0, none⟩ (.int .i64 (kindW (atL l k)))).setCell ⟨w.heap.size, 1, none⟩ (.int .i64 0)).setCell ⟨w.heap.size, 2, none⟩ (.string ⟨#[]⟩)).setCell ⟨w.heap.size, 3, none⟩ (.slice (some ⟨w5.heap.size, 0, none⟩) 2 2)) #[.int .i64 yk, .int .i64 yn, .string ys, .slice ya yl yc, .int .i64 zk, .int .i64 zn, .string zs, .slice za zl zc] 25
       rw [setsz, setsz, setsz, setsz] at hr
       exact hr)
end Go.Proofs.YtlfeejjlcclbdaaDoor
