/-
  What the law asks first: two conditions, parsed, and what they come to.
-/
import Derived.Test.YtfjphlejhcdbaaaEvR
import Derived.Test.YtfjphlejhcdbaaaRvE
import Derived.Test.YtfjphlejhcdbaaaWrkX
import Derived.Test.YtfjphlejhcdbaaaVB
import Derived.Test.YtfjphlejhcdbaaaVROf
import Derived.Test.YtfjphlejhcdbaaaVRPut
namespace Go.Proofs.Ytfjphlejhcdbaaa
section
open Go.RowKit
set_option linter.unusedVariables false

def xS : ByteArray := ⟨#[97, 32, 47, 32, 50, 32, 43, 32, 49, 32, 60, 32, 53, 32, 38, 32, 33, 40, 98, 32, 61, 32, 48, 41]⟩
def yS : ByteArray := ⟨#[97, 32, 47, 32, 40, 98, 32, 45, 32, 49, 41]⟩
def nT (n : Int) : Tr := ⟨1, n, [], []⟩
def aT : Tr := ⟨2, 0, [97], []⟩
def bT : Tr := ⟨2, 0, [98], []⟩
def xT : Tr := ⟨13, 0, [], [⟨12, 0, [], [⟨7, 0, [], [⟨10, 0, [], [aT, nT 2]⟩, nT 1]⟩, nT 5]⟩, ⟨6, 0, [], [⟨11, 0, [], [bT, nT 0]⟩]⟩]⟩
def yT : Tr := ⟨10, 0, [], [aT, ⟨8, 0, [], [bT, nT 1]⟩]⟩
def xW : List W := (lexOut xS).ws
def yW : List W := (lexOut yS).ws
theorem x_err : (lexOut xS).err = 0 := by kernel_rfl
theorem y_err : (lexOut yS).err = 0 := by kernel_rfl
theorem x_scan : scanE xS.size xW = (0, 0) := by kernel_rfl
theorem y_scan : scanE yS.size yW = (0, 0) := by kernel_rfl
theorem x_tree : treeN xW.length xW = xT := by kernel_rfl
theorem y_tree : treeN yW.length yW = yT := by kernel_rfl
theorem x_len : xW.length = 14 := by kernel_rfl
theorem y_len : yW.length = 7 := by kernel_rfl
theorem x_ws : xW = [⟨2, [97], 0, 0⟩, ⟨3, [47], 0, 2⟩, ⟨1, [], 2, 4⟩, ⟨3, [43], 0, 6⟩, ⟨1, [], 1, 8⟩, ⟨3, [60], 0, 10⟩, ⟨1, [], 5, 12⟩, ⟨3, [38], 0, 14⟩, ⟨3, [33], 0, 16⟩, ⟨3, [40], 0, 17⟩, ⟨2, [98], 0, 18⟩, ⟨3, [61], 0, 20⟩, ⟨1, [], 0, 22⟩, ⟨3, [41], 0, 23⟩] := by kernel_rfl
theorem y_ws : yW = [⟨2, [97], 0, 0⟩, ⟨3, [47], 0, 2⟩, ⟨3, [40], 0, 4⟩, ⟨2, [98], 0, 5⟩, ⟨3, [45], 0, 7⟩, ⟨1, [], 1, 9⟩, ⟨3, [41], 0, 10⟩] := by kernel_rfl
theorem x_ok : ∀ x ∈ xW, Wok x := by
  rw [x_ws]
  intro x hx
  simp only [List.mem_cons, List.not_mem_nil, or_false] at hx
  rcases hx with rfl | rfl | rfl | rfl | rfl | rfl | rfl | rfl | rfl | rfl | rfl | rfl | rfl | rfl <;> exact ⟨fun h => by first | exact ⟨_, rfl⟩ | (simp at h), by decide, by decide, by decide, by decide⟩
theorem y_ok : ∀ x ∈ yW, Wok x := by
  rw [y_ws]
  intro x hx
  simp only [List.mem_cons, List.not_mem_nil, or_false] at hx
  rcases hx with rfl | rfl | rfl | rfl | rfl | rfl | rfl <;> exact ⟨fun h => by first | exact ⟨_, rfl⟩ | (simp at h), by decide, by decide, by decide, by decide⟩
theorem x_kt : KT xT := ⟨6, by simp [Kd, xT, aT, bT, nT]⟩
theorem y_kt : KT yT := ⟨4, by simp [Kd, yT, aT, bT, nT]⟩
theorem x_check : checkM 16 xT = 0 := by kernel_rfl
theorem y_check : checkM 16 yT = 0 := by kernel_rfl
theorem x_parse (w : World) : Calls Try.prog 25 #[.string ⟨#[97, 32, 47, 32, 50, 32, 43, 32, 49, 32, 60, 32, 53, 32, 38, 32, 33, 40, 98, 32, 61, 32, 48, 41]⟩] w (PPost w ⟨xT, 0, 0⟩) := by
  have h := rparse_tree xS (by decide) (lexOut xS) x_err (by intro h; have := x_len; unfold xW at this; rw [h] at this; cases this) xT w (fun w => rsplit_any xS (by unfold maxLen; decide) w)
    (by have := scan_any xW (fun x hx => (x_ok x hx).1) xS.size (by decide); rw [x_scan] at this; exact this)
    (fun w b cap h1 h2 => tree_any xW.length xW xT x_ok x_kt x_tree (by rw [x_len]; decide) b 0 cap w h1 h2)
  rw [if_neg (by rw [x_check]; decide)] at h
  exact h
theorem y_parse (w : World) : Calls Try.prog 25 #[.string ⟨#[97, 32, 47, 32, 40, 98, 32, 45, 32, 49, 41]⟩] w (PPost w ⟨yT, 0, 0⟩) := by
  have h := rparse_tree yS (by decide) (lexOut yS) y_err (by intro h; have := y_len; unfold yW at this; rw [h] at this; cases this) yT w (fun w => rsplit_any yS (by unfold maxLen; decide) w)
    (by have := scan_any yW (fun x hx => (y_ok x hx).1) yS.size (by decide); rw [y_scan] at this; exact this)
    (fun w b cap h1 h2 => tree_any yW.length yW yT y_ok y_kt y_tree (by rw [y_len]; decide) b 0 cap w h1 h2)
  rw [if_neg (by rw [y_check]; decide)] at h
  exact h
theorem x_truth : truthM xT = (true, 0) := by kernel_rfl
theorem y_truth : truthM yT = (false, 0) := by kernel_rfl
def abL : V.VL := [(V.aB, 7), (V.bB, 1)]
theorem ab_of : V.ofM [([V.aB], [7]), ([V.bB], [1])] = (0, abL) := by
  have h1 : V.errs [([V.aB], [7]), ([V.bB], [1])] = 0 := V.errs_all (by
    intro v hv
    simp only [List.mem_cons, List.not_mem_nil, or_false] at hv
    rcases hv with rfl | rfl
    · exact V.chk_one V.isVar_a
    · exact V.chk_one V.isVar_b)
  have h2 : V.allM [([V.aB], [7]), ([V.bB], [1])] = abL := by
    simp [V.allM, V.putAll, V.zipV, V.putM, V.bl_ab, abL]
  unfold V.ofM
  rw [h1, h2]
  rfl
theorem ba_a : ba [97] = V.aB := rfl
theorem ba_b : ba [98] = V.bB := rfl
theorem ab_a : envL abL [97] = some 7 := by
  unfold envL abL
  rw [ba_a]
  simp [V.look]
theorem ab_b : envL abL [98] = some 1 := by
  unfold envL abL
  rw [ba_b]
  simp [V.look, Ne.symm V.ab_ne]
def abE : Env := fun nm => if nm = [97] then some 7 else if nm = [98] then some 1 else none
theorem x_ev : evM abE 16 xT = ⟨true, 1, 0⟩ := by kernel_rfl
theorem y_ev : evM abE 16 yT = ⟨false, 0, 12⟩ := by kernel_rfl
theorem y_no : evM (fun _ => none) 16 yT = ⟨false, 0, 9⟩ := by kernel_rfl
end
section
open Go.RowKit
set_option linter.unusedVariables false

theorem put_ok : V.PutOk := fun l n x v w h1 h2 h3 => V.rput_any l n x v w h1 h2 h3
theorem one_form (s : ByteArray) (n : Int) (w : World) : Calls Try.prog 20 #[.string s, .int .i64 n] w fun e w' => ∃ a1 c1 a2 c2, e = .returned (.agg #[.slice a1 1 c1, .slice a2 1 c2]) ∧ V.RdV w' (.agg #[.slice a1 1 c1, .slice a2 1 c2]) [s] [n] ∧ Below w.heap.size w w' := by
  refine (V.One_any s n w).mono ?_
  rintro e w' ⟨r, rfl, ⟨sn, sv, rfl, h1, h2⟩, hb⟩
  have r1 := V.Rd.of_own h1
  have r2 := V.Rd.of_own h2
  obtain ⟨a1, c1, rfl⟩ := r1.form
  obtain ⟨a2, c2, rfl⟩ := r2.form
  exact ⟨a1, c1, a2, c2, rfl, ⟨_, _, rfl, r1, r2⟩, hb⟩
theorem agg_rd {w : World} {s1 s2 : Value} {ns : List ByteArray} {vs : List Int} (h : V.RdV w (.agg #[s1, s2]) ns vs) : V.Rd w s1 (V.strsV ns) ∧ V.Rd w s2 (V.intsV vs) := by
  obtain ⟨t1, t2, e1, r1, r2⟩ := h
  simp only [Value.agg.injEq, Array.mk.injEq, List.cons.injEq, and_true] at e1
  obtain ⟨rfl, rfl⟩ := e1
  exact ⟨r1, r2⟩
theorem four_block {w : World} {g : Nat} {x0 x1 x2 x3 : Value} {t : TypeId} (h : w.heap[g]? = some (.cells #[x0, x1, x2, x3] t)) : w.cell? ⟨g, 0, none⟩ = some x0 ∧ w.cell? ⟨g, 1, none⟩ = some x1 ∧ w.cell? ⟨g, 2, none⟩ = some x2 ∧ w.cell? ⟨g, 3, none⟩ = some x3 := by
  refine ⟨?_, ?_, ?_, ?_⟩ <;> (rw [cell_of_row _ g _ _ t (0, 0) h]; rfl)
/-- A list of two variables, just laid. -/
theorem rdl_two {w : World} {x y : V.VP} {s1 s2 s3 s4 : Value} (h1 : V.RdV w (.agg #[s1, s2]) x.1 x.2) (h2 : V.RdV w (.agg #[s3, s4]) y.1 y.2) {g : Nat} {t : TypeId} (hg : w.heap[g]? = some (.cells #[s1, s2, s3, s4] t)) : V.RdL w (.slice (some ⟨g, 0, none⟩) 2 2) [x, y] := by
  obtain ⟨r1, r2⟩ := agg_rd h1
  obtain ⟨r3, r4⟩ := agg_rd h2
  obtain ⟨c0, c1, c2, c3⟩ := four_block hg
  refine ⟨g, 2, rfl, Nat.le_refl _, by decide, (Array.getElem?_eq_some_iff.1 hg).1, fun i hi => ?_⟩
  have hi2 : i = 0 ∨ i = 1 := by simp at hi; omega
  rcases hi2 with rfl | rfl
  · exact ⟨s1, s2, c0, c1, r1, r2⟩
  · exact ⟨s3, s4, c2, c3, r3, r4⟩
/-- The document's Of, of two. -/
theorem of2_form {w : World} {x y : V.VP} {s1 s2 s3 s4 : Value} (h1 : V.RdV w (.agg #[s1, s2]) x.1 x.2) (h2 : V.RdV w (.agg #[s3, s4]) y.1 y.2) {g : Nat} {t : TypeId} (hg : w.heap[g]? = some (.cells #[s1, s2, s3, s4] t)) (hx : ∀ n ∈ x.1, n.size ≤ 9223372036854775807) (hy : ∀ n ∈ y.1, n.size ≤ 9223372036854775807) :
    Calls Try.prog 19 #[.slice (some ⟨g, 0, none⟩) 2 2] w fun e w' => ∃ b1 d1 b2 d2 m, e = .returned (.tuple #[.agg #[.slice b1 m d1, .slice b2 m d2], .int .i64 ((V.ofM [x, y]).1 : Nat)]) ∧ V.RdV w' (.agg #[.slice b1 m d1, .slice b2 m d2]) (V.nmsOf (V.ofM [x, y]).2) (V.valsOf (V.ofM [x, y]).2) ∧ Below w.heap.size w w' ∧ m = (V.ofM [x, y]).2.length := by
  refine (V.rOf_of put_ok [x, y] _ w (rdl_two h1 h2 hg) (by
    intro z hz n hn
    simp only [List.mem_cons, List.not_mem_nil, or_false] at hz
    rcases hz with rfl | rfl
    · exact hx n hn
    · exact hy n hn) (by simp)).mono ?_
  rintro e w' ⟨r, rfl, h7, hb⟩
  have h8 := h7.read
  obtain ⟨sn, sv, rfl, r1, r2⟩ := h8
  obtain ⟨b1, d1, rfl⟩ := r1.form
  obtain ⟨b2, d2, rfl⟩ := r2.form
  have e1 : (V.strsV (V.nmsOf (V.ofM [x, y]).2)).length = (V.ofM [x, y]).2.length := by rw [V.strsV_len, V.nmsOf_len]
  have e2 : (V.intsV (V.valsOf (V.ofM [x, y]).2)).length = (V.ofM [x, y]).2.length := by rw [V.intsV_len, V.valsOf_len]
  rw [e1] at r1 ⊢
  rw [e2] at r2 ⊢
  exact ⟨b1, d1, b2, d2, _, rfl, ⟨_, _, rfl, r1, r2⟩, hb, rfl⟩
theorem ab_env : envN [V.aB, V.bB] [7, 1] = abE := by
  funext nm
  show envL abL nm = abE nm
  unfold envL abL abE
  have ha : V.aB = ba nm ↔ nm = [97] := ⟨fun h => by have := congrArg ByteArray.toList h; rw [ba_toList, V.aB_tl] at this; exact this.symm, fun h => by rw [h]; rfl⟩
  have hb : V.bB = ba nm ↔ nm = [98] := ⟨fun h => by have := congrArg ByteArray.toList h; rw [ba_toList, V.bB_tl] at this; exact this.symm, fun h => by rw [h]; rfl⟩
  simp only [V.look, ha, hb]
theorem ab_chk : V.chk [V.aB, V.bB] [7, 1] = 0 := V.chk_ab 7 1
theorem ofM_x : ofM (envN [V.aB, V.bB] [7, 1]) (V.chk [V.aB, V.bB] [7, 1]) xT = ⟨true, 1, 0⟩ := by
  rw [ab_env, ab_chk]
  unfold ofM
  rw [x_truth, if_neg (by decide), if_neg (by decide)]
  exact x_ev
theorem ofM_y : ofM (envN [V.aB, V.bB] [7, 1]) (V.chk [V.aB, V.bB] [7, 1]) yT = ⟨false, 0, 12⟩ := by
  rw [ab_env, ab_chk]
  unfold ofM
  rw [y_truth, if_neg (by decide), if_neg (by decide)]
  exact y_ev
theorem ofM_n : ofM (envN [] []) (V.chk [] []) yT = ⟨false, 0, 9⟩ := by
  unfold ofM
  rw [y_truth, if_neg (by decide), if_neg (by decide)]
  exact y_no
/-- A tree that lies in a block of the call's own. -/
structure WX (w : World) (g : Nat) (t : Tr) (k n : Int) (s : ByteArray) (a : Option Addr) (l c : Nat) : Prop where
  cel : Cell4 w g (.int .i64 k) (.int .i64 n) (.string s) (.slice a l c)
  tin : Tin w t k n s a l c
theorem WX.below {w w' : World} {g : Nat} {t : Tr} {k n : Int} {s : ByteArray} {a : Option Addr} {l c : Nat} (h : WX w g t k n s a l c) (hb : Below w.heap.size w w') : WX w' g t k n s a l c := ⟨h.cel.below hb, h.tin.below hb⟩
/-- Variables that lie in a block of the call's own. -/
structure WV (w : World) (g : Nat) (a1 : Option Addr) (n1 c1 : Nat) (a2 : Option Addr) (n2 c2 : Nat) (ns : List ByteArray) (vs : List Int) : Prop where
  c : V.Two w g (.slice a1 n1 c1) (.slice a2 n2 c2)
  v : Vin w (.agg #[.slice a1 n1 c1, .slice a2 n2 c2]) ns vs
theorem WV.below {w w' : World} {g : Nat} {a1 a2 : Option Addr} {n1 c1 n2 c2 : Nat} {ns : List ByteArray} {vs : List Int} (h : WV w g a1 n1 c1 a2 n2 c2 ns vs) (hb : Below w.heap.size w w') : WV w' g a1 n1 c1 a2 n2 c2 ns vs := ⟨h.c.below hb, h.v.below hb⟩
theorem WX.new {w : World} {t : Tr} {k n : Int} {s : ByteArray} {a : Option Addr} {l c : Nat} (h : Tin w t k n s a l c) (o : Obj) : WX ((w.alloc (.cells #[.int .i64 k, .int .i64 n, .string s, .slice a l c] 24)).alloc o) w.heap.size t k n s a l c :=
  ⟨(Cell4.new w _ _ _ _ 24).alloc o, (h.below (below_one _ _)).below (below_one _ _)⟩
theorem WV.new {w : World} {a1 a2 : Option Addr} {n1 c1 n2 c2 : Nat} {ns : List ByteArray} {vs : List Int} (h : Vin w (.agg #[.slice a1 n1 c1, .slice a2 n2 c2]) ns vs) : WV (w.alloc (.cells #[.slice a1 n1 c1, .slice a2 n2 c2] 28)) w.heap.size a1 n1 c1 a2 n2 c2 ns vs :=
  ⟨V.Two.new w _ _ 28, h.below (below_one _ _)⟩
theorem of_ab {w : World} {s1 s2 s3 s4 : Value} (h1 : V.RdV w (.agg #[s1, s2]) [V.aB] [7]) (h2 : V.RdV w (.agg #[s3, s4]) [V.bB] [1]) (g : Nat) (hg : g = w.heap.size) :
    Calls Try.prog 19 #[.slice (some ⟨g, 0, none⟩) 2 2] (w.alloc (.cells #[s1, s2, s3, s4] 28)) fun e w' => ∃ b1 d1 b2 d2, e = .returned (.tuple #[.agg #[.slice b1 2 d1, .slice b2 2 d2], .int .i64 0]) ∧ Vin w' (.agg #[.slice b1 2 d1, .slice b2 2 d2]) [V.aB, V.bB] [7, 1] ∧ Below w.heap.size w w' := by
  subst hg
  have h := of2_form (x := ([V.aB], [7])) (y := ([V.bB], [1])) (h1.below (below_one w (.cells #[s1, s2, s3, s4] 28))) (h2.below (below_one w _)) (heap_alloc_new w _) (fun n hn => by rw [List.mem_singleton.1 hn]; show (1 : Nat) ≤ _; decide) (fun n hn => by rw [List.mem_singleton.1 hn]; show (1 : Nat) ≤ _; decide)
  refine h.mono ?_
  rintro e w' ⟨b1, d1, b2, d2, m, rfl, h7, hb, rfl⟩
  rw [ab_of] at h7 ⊢
  refine ⟨b1, d1, b2, d2, rfl, ⟨h7, ?_, ?_⟩, (below_one _ _).trans (hb.mono (le_alloc _ _))⟩
  · intro n hn
    simp only [List.mem_cons, List.not_mem_nil, or_false] at hn
    rcases hn with rfl | rfl <;> decide
  · intro n hn
    simp only [List.mem_cons, List.not_mem_nil, or_false] at hn
    rcases hn with rfl | rfl <;> exact ⟨by decide, by decide⟩
theorem nil_in (w : World) : Vin w (.agg #[.slice none 0 0, .slice none 0 0]) [] [] := ⟨V.RdV.nil w, by simp, by simp⟩
theorem tru_x {w : World} {k n : Int} {s : ByteArray} {a : Option Addr} {l c : Nat} {v : Value} (hT : Tin w xT k n s a l c) (hV : Vin w v [V.aB, V.bB] [7, 1]) : Calls Try.prog 14 #[.agg #[.int .i64 k, .int .i64 n, .string s, .slice a l c], v] w fun e w' => e = .returned (.tuple #[.bool true, .int .i64 0]) ∧ Below w.heap.size w w' := by
  have h := ETruth_any xT k n s a l c v _ _ w hT hV
  rw [ofM_x] at h
  exact h
theorem num_y {w : World} {k n : Int} {s : ByteArray} {a : Option Addr} {l c : Nat} {v : Value} (hT : Tin w yT k n s a l c) (hV : Vin w v [V.aB, V.bB] [7, 1]) : Calls Try.prog 13 #[.agg #[.int .i64 k, .int .i64 n, .string s, .slice a l c], v] w fun e w' => e = .returned (.tuple #[.int .i64 0, .int .i64 12]) ∧ Below w.heap.size w w' := by
  have h := Number_any yT k n s a l c v _ _ w hT hV
  rw [ofM_y] at h
  exact h
theorem num_x {w : World} {k n : Int} {s : ByteArray} {a : Option Addr} {l c : Nat} {v : Value} (hT : Tin w xT k n s a l c) (hV : Vin w v [V.aB, V.bB] [7, 1]) : Calls Try.prog 13 #[.agg #[.int .i64 k, .int .i64 n, .string s, .slice a l c], v] w fun e w' => e = .returned (.tuple #[.int .i64 0, .int .i64 7]) ∧ Below w.heap.size w w' := by
  have h := Number_any xT k n s a l c v _ _ w hT hV
  rw [ofM_x] at h
  exact h
theorem of_n {w : World} {k n : Int} {s : ByteArray} {a : Option Addr} {l c : Nat} (hT : Tin w yT k n s a l c) : Calls Try.prog 11 #[.agg #[.int .i64 k, .int .i64 n, .string s, .slice a l c], .agg #[.slice none 0 0, .slice none 0 0]] w fun e w' => e = .returned (.tuple #[.agg #[.bool false, .int .i64 0], .int .i64 9]) ∧ Below w.heap.size w w' := by
  have h := of_any yT k n s a l c _ _ _ w hT (nil_in w)
  rw [ofM_n] at h
  exact h
theorem two_bel {w w1 w2 : World} (h : Below w.heap.size w w1) (o1 o2 : Obj) (hb : Below ((w1.alloc o1).alloc o2).heap.size ((w1.alloc o1).alloc o2) w2) : Below w.heap.size w w2 ∧ Below w1.heap.size w1 w2 :=
  ⟨((h.alloc h.size o1).alloc (Nat.le_trans h.size (le_alloc _ _)) o2).trans (hb.mono (Nat.le_trans h.size (Nat.le_trans (le_alloc _ _) (le_alloc _ _)))), (two_low w1 o1 o2).trans (hb.mono (Nat.le_trans (le_alloc _ _) (le_alloc _ _)))⟩
theorem one_bel {w w1 w2 : World} (h : Below w.heap.size w w1) (o1 : Obj) (hb : Below (w1.alloc o1).heap.size (w1.alloc o1) w2) : Below w.heap.size w w2 ∧ Below w1.heap.size w1 w2 :=
  ⟨(h.alloc h.size o1).trans (hb.mono (Nat.le_trans h.size (le_alloc _ _))), (below_one w1 o1).trans (hb.mono (le_alloc _ _))⟩
set_option maxRecDepth 100000 in
set_option maxHeartbeats 1600000 in
theorem works_any (w : World) : Calls Try.prog 10 #[] w fun e w' => e = .returned (.bool true) ∧ Below w.heap.size w w' := by
  have HX : Hid (∀ w, Calls Try.prog 25 #[.string ⟨#[97, 32, 47, 32, 50, 32, 43, 32, 49, 32, 60, 32, 53, 32, 38, 32, 33, 40, 98, 32, 61, 32, 48, 41]⟩] w (PPost w ⟨xT, 0, 0⟩)) := x_parse
  have HY : Hid (∀ w, Calls Try.prog 25 #[.string ⟨#[97, 32, 47, 32, 40, 98, 32, 45, 32, 49, 41]⟩] w (PPost w ⟨yT, 0, 0⟩)) := y_parse
  have HA : Hid (∀ w, Calls Try.prog 20 #[.string ⟨#[97]⟩, .int .i64 7] w fun e w' => ∃ a1 c1 a2 c2, e = .returned (.agg #[.slice a1 1 c1, .slice a2 1 c2]) ∧ V.RdV w' (.agg #[.slice a1 1 c1, .slice a2 1 c2]) [V.aB] [7] ∧ Below w.heap.size w w') := fun w => one_form V.aB 7 w
  have HB : Hid (∀ w, Calls Try.prog 20 #[.string ⟨#[98]⟩, .int .i64 1] w fun e w' => ∃ a1 c1 a2 c2, e = .returned (.agg #[.slice a1 1 c1, .slice a2 1 c2]) ∧ V.RdV w' (.agg #[.slice a1 1 c1, .slice a2 1 c2]) [V.bB] [1] ∧ Below w.heap.size w w') := fun w => one_form V.bB 1 w
  go_enter Try.func10, Try.ntmps10
  go_wp2_with (first
    | (go_at_call 25; have := M1; refine (HY.out _).mono ?_; rintro e w2 ⟨⟨yk, yn, ys, ya, yl, yc, rfl, HT⟩, HBB⟩; have M2 : Hid (Below w.heap.size w w2 ∧ WX w2 w1.heap.size xT xk xn xs xa xl xc ∧ Tin w2 yT yk yn ys ya yl yc) := ⟨(two_bel M1.out.1 _ _ HBB).1, (WX.new M1.out.2 _).below HBB, ⟨_, HT⟩⟩; clear HBB HT; obtain ⟨p0, p1, p2, p3, p4⟩ := M2.out.2.1.cel; have hp := M2.out.2.1.cel.lt; clear M1)
    | (go_at_call 25; refine (HX.out _).mono ?_; rintro e w1 ⟨⟨xk, xn, xs, xa, xl, xc, rfl, HT⟩, HBB⟩; have M1 : Hid (Below w.heap.size w w1 ∧ Tin w1 xT xk xn xs xa xl xc) := ⟨HBB, ⟨_, HT⟩⟩; clear HBB HT)
    | (go_at_call 20; have := M3; refine (HB.out _).mono ?_; rintro e w4 ⟨f1, d1, f2, d2, rfl, HR, HBB⟩; have M4 : Hid (Below w.heap.size w w4 ∧ WX w4 w1.heap.size xT xk xn xs xa xl xc ∧ WX w4 w2.heap.size yT yk yn ys ya yl yc ∧ V.RdV w4 (.agg #[.slice e1 1 c1, .slice e2 1 c2]) [V.aB] [7] ∧ V.RdV w4 (.agg #[.slice f1 1 d1, .slice f2 1 d2]) [V.bB] [1]) := ⟨M3.out.1.trans (HBB.mono M3.out.1.size), M3.out.2.1.below HBB, M3.out.2.2.1.below HBB, M3.out.2.2.2.below HBB, HR⟩; clear HBB HR M3)
    | (go_at_call 20; have := M2; refine (HA.out _).mono ?_; rintro e w3 ⟨e1, c1, e2, c2, rfl, HR, HBB⟩; have M3 : Hid (Below w.heap.size w w3 ∧ WX w3 w1.heap.size xT xk xn xs xa xl xc ∧ WX w3 w2.heap.size yT yk yn ys ya yl yc ∧ V.RdV w3 (.agg #[.slice e1 1 c1, .slice e2 1 c2]) [V.aB] [7]) := ⟨(two_bel M2.out.1 _ _ HBB).1, M2.out.2.1.below (two_bel M2.out.1 _ _ HBB).2, (WX.new M2.out.2.2 _).below HBB, HR⟩; clear HBB HR M2)
    | (go_at_call 19; refine (of_ab M4.out.2.2.2.1 M4.out.2.2.2.2 _ rfl).mono ?_; rintro e w5 ⟨h1, i1, h2, i2, rfl, HR, HBB⟩; have M5 : Hid (Below w.heap.size w w5 ∧ WX w5 w1.heap.size xT xk xn xs xa xl xc ∧ WX w5 w2.heap.size yT yk yn ys ya yl yc ∧ Vin w5 (.agg #[.slice h1 2 i1, .slice h2 2 i2]) [V.aB, V.bB] [7, 1]) := ⟨M4.out.1.trans (HBB.mono M4.out.1.size), M4.out.2.1.below HBB, M4.out.2.2.1.below HBB, HR⟩; clear HBB HR M4; obtain ⟨p0, p1, p2, p3, p4⟩ := M5.out.2.1.cel; have hp := M5.out.2.1.cel.lt)
    | (go_at_call 14; refine (tru_x (M5.out.2.1.tin.below (below_one _ _)) (WV.new M5.out.2.2.2).v).mono ?_; rintro e w6 ⟨rfl, HBB⟩; have M6 : Hid (Below w.heap.size w w6 ∧ WX w6 w1.heap.size xT xk xn xs xa xl xc ∧ WX w6 w2.heap.size yT yk yn ys ya yl yc ∧ WV w6 w5.heap.size h1 2 i1 h2 2 i2 [V.aB, V.bB] [7, 1]) := ⟨(one_bel M5.out.1 _ HBB).1, M5.out.2.1.below (one_bel M5.out.1 _ HBB).2, M5.out.2.2.1.below (one_bel M5.out.1 _ HBB).2, (WV.new M5.out.2.2.2).below HBB⟩; clear HBB M5; obtain ⟨p0, p1, p2, p3, p4⟩ := M6.out.2.2.1.cel; obtain ⟨g1, v0, v1, v2, v3⟩ := M6.out.2.2.2.c)
    | (go_at_call 13; have := M7; refine (num_x M7.out.2.1.tin M7.out.2.2.2.v).mono ?_; rintro e w8 ⟨rfl, HBB⟩; have M8 : Hid (Below w.heap.size w w8 ∧ WX w8 w2.heap.size yT yk yn ys ya yl yc) := ⟨M7.out.1.trans (HBB.mono M7.out.1.size), M7.out.2.2.1.below HBB⟩; clear HBB M7; obtain ⟨p0, p1, p2, p3, p4⟩ := M8.out.2.cel)
    | (go_at_call 13; have := M6; refine (num_y M6.out.2.2.1.tin M6.out.2.2.2.v).mono ?_; rintro e w7 ⟨rfl, HBB⟩; have M7 : Hid (Below w.heap.size w w7 ∧ WX w7 w1.heap.size xT xk xn xs xa xl xc ∧ WX w7 w2.heap.size yT yk yn ys ya yl yc ∧ WV w7 w5.heap.size h1 2 i1 h2 2 i2 [V.aB, V.bB] [7, 1]) := ⟨M6.out.1.trans (HBB.mono M6.out.1.size), M6.out.2.1.below HBB, M6.out.2.2.1.below HBB, M6.out.2.2.2.below HBB⟩; clear HBB M6; obtain ⟨p0, p1, p2, p3, p4⟩ := M7.out.2.1.cel; obtain ⟨g1, v0, v1, v2, v3⟩ := M7.out.2.2.2.c)
    | (go_at_call 11; refine (of_n M8.out.2.tin).mono ?_; rintro e w9 ⟨rfl, HBB⟩; have M9 : Hid (Below w.heap.size w w9) := M8.out.1.trans (HBB.mono M8.out.1.size); clear HBB M8))
  go_ret
  exact ⟨rfl, M9.out.alloc M9.out.size _⟩
end
end Go.Proofs.Ytfjphlejhcdbaaa
