/-
  The document's Scan, of words.
-/
import Derived.Test.YtdnpbnhfakjhoaaScanW
import Derived.Test.YtdnpbnhfakjhoaaTreA
import Derived.Test.YtdnpbnhfakjhoaaRSplit
import Derived.Test.YtdnpbnhfakjhoaaNamA
import Derived.Test.YtdnpbnhfakjhoaaFolB
namespace Go.Proofs.Ytdnpbnhfakjhoaa
section
open Go.RowKit
set_option linter.unusedVariables false

theorem scan_any (ws : List W) (hsg : ∀ x ∈ ws, x.kind = 3 → ∃ c, x.text = [c]) (en : Nat) (hen : en ≤ 4096) : ScanS ws en (scanE en ws).1 (scanE en ws).2 := by
  intro w a cap h
  obtain ⟨a2, cap2, e, h1, h2, h3⟩ := h
  injection e with e1 e2 e3
  subst e1; subst e3
  refine scan_walk ws h2 hsg en hen a cap h1 w ?_ _ rfl
  intro hne
  rcases h3 with h | ⟨b, rfl, hc⟩
  · exact absurd h hne
  · exact ⟨b, rfl, fun i hi => by rw [Nat.zero_add]; exact hc i hi⟩
end
section
open Go.RowKit
set_option linter.unusedVariables false

def litS : ByteArray := ⟨#[98, 32, 43, 32, 97, 32, 60, 32, 50, 32, 42, 32, 51]⟩
def aT : Tr := ⟨2, 0, [97], []⟩
def bT : Tr := ⟨2, 0, [98], []⟩
def mulT : Tr := ⟨9, 0, [], [⟨1, 2, [], []⟩, ⟨1, 3, [], []⟩]⟩
def addT : Tr := ⟨7, 0, [], [bT, aT]⟩
def litT : Tr := ⟨12, 0, [], [addT, mulT]⟩
def litW : List W := (lexOut litS).ws
theorem lit_err : (lexOut litS).err = 0 := by kernel_rfl
theorem lit_scan : scanE litS.size litW = (0, 0) := by kernel_rfl
theorem lit_tree : treeN litW.length litW = litT := by kernel_rfl
theorem lit_len : litW.length = 7 := by kernel_rfl
theorem lit_ws : litW = [⟨2, [98], 0, 0⟩, ⟨3, [43], 0, 2⟩, ⟨2, [97], 0, 4⟩, ⟨3, [60], 0, 6⟩, ⟨1, [], 2, 8⟩, ⟨3, [42], 0, 10⟩, ⟨1, [], 3, 12⟩] := by kernel_rfl
theorem lit_ok : ∀ x ∈ litW, Wok x := by
  rw [lit_ws]
  intro x hx
  simp only [List.mem_cons, List.not_mem_nil, or_false] at hx
  rcases hx with rfl | rfl | rfl | rfl | rfl | rfl | rfl <;> exact ⟨fun h => by first | exact ⟨_, rfl⟩ | (simp at h), by decide, by decide, by decide, by decide⟩
theorem lit_kt : KT litT := ⟨3, by simp [Kd, litT, addT, mulT, aT, bT]⟩
theorem lit_check : checkM 16 litT = 0 := by kernel_rfl
theorem lit_parse (w : World) : Calls Try.prog 21 #[.string ⟨#[98, 32, 43, 32, 97, 32, 60, 32, 50, 32, 42, 32, 51]⟩] w (PPost w ⟨litT, 0, 0⟩) := by
  have h := rparse_tree litS (by decide) (lexOut litS) lit_err (by intro h; have := lit_len; unfold litW at this; rw [h] at this; cases this) litT w (fun w => rsplit_any litS (by unfold maxLen; decide) w)
    (by have := scan_any litW (fun x hx => (lit_ok x hx).1) litS.size (by decide); rw [lit_scan] at this; exact this)
    (fun w b cap h1 h2 => tree_any litW.length litW litT lit_ok lit_kt lit_tree (by rw [lit_len]; decide) b 0 cap w h1 h2)
  rw [if_neg (by rw [lit_check]; decide)] at h
  exact h
end
section
open Go.RowKit
set_option linter.unusedVariables false

def cT : Tr := ⟨2, 0, [99], []⟩
def litF : Tr := ⟨12, 0, [], [addT, ⟨1, 6, [], []⟩]⟩
def litR : Tr := ⟨12, 0, [], [⟨7, 0, [], [bT, cT]⟩, mulT]⟩
def notT : Tr := ⟨6, 0, [], [⟨1, 0, [], []⟩]⟩
theorem lit_fold : foldM litT = (litF, 0) := by kernel_rfl
theorem lit_truth : truthM litT = (true, 0) := by kernel_rfl
theorem not_truth : truthM notT = (false, 7) := by kernel_rfl
theorem lit_ren : renameM [97] [99] litT = (litR, 0) := by kernel_rfl
theorem lit_vars : varsM 16 litT = [[98], [97]] := by kernel_rfl
theorem ren_vars : varsM 16 litR = [[98], [99]] := by kernel_rfl
theorem ren_check : checkM 16 litR = 0 := by kernel_rfl
theorem sort_lit : sortB [[98], [97]] = [[97], [98]] := by
  unfold sortB
  have h : ¬ ([98] : Bs) ≤ [97] := by decide
  simp [List.mergeSort, h]
theorem sort_ren : sortB [[98], [99]] = [[98], [99]] := by
  unfold sortB
  have h : ([98] : Bs) ≤ [99] := by decide
  simp [List.mergeSort, h]
theorem lit_names : namesM litT = [[97], [98]] := by
  unfold namesM
  rw [if_neg (by rw [lit_check]; decide), lit_vars, sort_lit]
  decide
theorem ren_names : namesM litR = [[98], [99]] := by
  unfold namesM
  rw [if_neg (by rw [ren_check]; decide), ren_vars, sort_ren]
  decide
end
section
open Go.RowKit
set_option linter.unusedVariables false

theorem fold_lit (P : Nat → Prop) (k n : Int) (s : ByteArray) (a : Option Addr) (l c : Nat) (w : World) (hT : Tre w P (.agg #[.int .i64 k, .int .i64 n, .string s, .slice a l c]) litT) :
    Calls Try.prog 17 #[.agg #[.int .i64 k, .int .i64 n, .string s, .slice a l c]] w fun e w' => ∃ g o ys yc, e = .returned (.tuple #[.agg #[.int .i64 12, .int .i64 0, .string ys, .slice (some ⟨g, o, none⟩) 2 yc], .int .i64 0]) ∧ w'.cell? ⟨g, o + 4 + 1, none⟩ = some (.int .i64 6) ∧ 2 ≤ yc ∧ Below w.heap.size w w' := by
  have h := Fold_any P litT k n s a l c w hT
  rw [lit_fold] at h
  refine h.mono ?_
  rintro e w' ⟨rk, rn, rs, ra, rl, rc, rfl, ht, hb⟩
  obtain ⟨a2, c2, e2, hc, _, _, _, _, hk⟩ := ht.opened
  simp only [Value.agg.injEq, Array.mk.injEq, List.cons.injEq, Value.int.injEq, Value.string.injEq, Value.slice.injEq, true_and, and_true] at e2
  obtain ⟨rfl, rfl, rfl, rfl, rfl, rfl⟩ := e2
  obtain ⟨b, o, ka, kc, hK⟩ := hk 1 (by decide)
  obtain ⟨rfl, c0, c1, _⟩ := hK
  have e1 : o + 1 * 4 + 1 = o + 4 + 1 := by omega
  rw [e1] at c1
  exact ⟨b, o, _, _, rfl, c1, hc, hb⟩
theorem truth_lit (P : Nat → Prop) (k n : Int) (s : ByteArray) (a : Option Addr) (l c : Nat) (w : World) (hT : Tre w P (.agg #[.int .i64 k, .int .i64 n, .string s, .slice a l c]) litT) :
    Calls Try.prog 9 #[.agg #[.int .i64 k, .int .i64 n, .string s, .slice a l c]] w fun e w' => e = .returned (.tuple #[.bool true, .int .i64 0]) ∧ Below w.heap.size w w' := by
  have h := Truth_any P litT k n s a l c w hT
  rw [lit_truth] at h
  exact h
theorem truth_not (w : World) : Calls Try.prog 9 #[.agg #[.int .i64 6, .int .i64 0, .string ⟨#[]⟩, .slice (some ⟨w.heap.size, 0, none⟩) 1 1]] (w.alloc (.cells #[.int .i64 1, .int .i64 0, .string ⟨#[]⟩, .slice none 0 0] 24)) fun e w' => e = .returned (.tuple #[.bool false, .int .i64 7]) ∧ Below (w.alloc (.cells #[.int .i64 1, .int .i64 0, .string ⟨#[]⟩, .slice none 0 0] 24)).heap.size (w.alloc (.cells #[.int .i64 1, .int .i64 0, .string ⟨#[]⟩, .slice none 0 0] 24)) w' := by
  obtain ⟨c0, c1, c2, c3, _⟩ := Cell4.new w (.int .i64 1) (.int .i64 0) (.string ⟨#[]⟩) (.slice none 0 0) 24
  have h := Truth_any (fun _ => True) notT 6 0 ⟨#[]⟩ (some ⟨w.heap.size, 0, none⟩) 1 1 _ (Tre.node1 (k := 6) ⟨by decide, by decide⟩ (Tre.leaf _ _ ⟨by decide, by decide⟩ inR_zero [] (by decide)) True.intro c0 c1 c2 c3)
  rw [not_truth] at h
  exact h
theorem ren_lit (P : Nat → Prop) (k n : Int) (s : ByteArray) (a : Option Addr) (l c : Nat) (w : World) (hT : Tre w P (.agg #[.int .i64 k, .int .i64 n, .string s, .slice a l c]) litT) :
    Calls Try.prog 11 #[.agg #[.int .i64 k, .int .i64 n, .string s, .slice a l c], .string ⟨#[97]⟩, .string ⟨#[99]⟩] w (NPost w litR 0) := by
  have h := Rename_any [97] [99] (by decide) P litT k n s a l c w hT
  rw [lit_ren] at h
  exact h
theorem names_lit (P : Nat → Prop) (k n : Int) (s : ByteArray) (a : Option Addr) (l c : Nat) (w : World) (hT : Tre w P (.agg #[.int .i64 k, .int .i64 n, .string s, .slice a l c]) litT) :
    Calls Try.prog 15 #[.agg #[.int .i64 k, .int .i64 n, .string s, .slice a l c]] w fun e w' => ∃ p cap, e = .returned (.slice p 2 cap) ∧ Below w.heap.size w w' := by
  have h := Names_any P litT k n s a l c w hT
  rw [lit_names] at h
  refine h.mono ?_
  rintro e w' ⟨v, rfl, ⟨p, cap, rfl, _⟩, hb⟩
  exact ⟨p, cap, rfl, hb⟩
theorem names_ren (P : Nat → Prop) (k n : Int) (s : ByteArray) (a : Option Addr) (l c : Nat) (w : World) (hT : Tre w P (.agg #[.int .i64 k, .int .i64 n, .string s, .slice a l c]) litR) :
    Calls Try.prog 15 #[.agg #[.int .i64 k, .int .i64 n, .string s, .slice a l c]] w fun e w' => ∃ g cap, e = .returned (.slice (some ⟨g, 0, none⟩) 2 cap) ∧ 2 ≤ cap ∧ g < w'.heap.size ∧ w'.cell? ⟨g, 1, none⟩ = some (.string ⟨#[99]⟩) ∧ Below w.heap.size w w' := by
  have h := Names_any P litR k n s a l c w hT
  rw [ren_names] at h
  refine h.mono ?_
  rintro e w' ⟨v, rfl, ⟨p, cap, rfl, hc, _, h4⟩, hb⟩
  rcases h4 with h4 | ⟨g, rfl, hlt, hcell⟩
  · cases h4
  · exact ⟨g, cap, rfl, hc, hlt, hcell 1 (by decide), hb⟩
set_option maxRecDepth 100000 in
set_option maxHeartbeats 2000000 in
theorem works_any (w : World) : Calls Try.prog 8 #[] w fun e w' => e = .returned (.bool true) ∧ Below w.heap.size w w' := by
  have H21 : Hid (∀ w, Calls Try.prog 21 #[.string ⟨#[98, 32, 43, 32, 97, 32, 60, 32, 50, 32, 42, 32, 51]⟩] w (PPost w ⟨litT, 0, 0⟩)) := lit_parse
  go_enter Try.func8, Try.ntmps8
  go_wp2_with (first
    | (go_at_call 15; have := M7; refine (names_ren _ _ _ _ _ _ _ _ M7.out.2.2.1).mono ?_; rintro e w8 ⟨ug, uc, rfl, hu1, hu2, hu3, HB⟩; have M8 : Hid (Below w.heap.size w w8) := M7.out.1.trans (HB.mono M7.out.1.size); obtain ⟨y0, y1, y2, y3, y4⟩ := M7.out.2.2.2.2.1.below HB; have y5 : w8.cell? ⟨yg, yo + 4 + 1, none⟩ = some (.int .i64 6) := (HB.cell (p := ⟨yg, yo + 4 + 1, none⟩) (World.block_lt_of_cell? _ _ M7.out.2.2.2.2.2)).trans M7.out.2.2.2.2.2; clear HB M7)
    | (go_at_call 15; have := M6; refine (names_lit _ _ _ _ _ _ _ _ M6.out.2.1).mono ?_; rintro e w7 ⟨tp, tcp, rfl, HB⟩; have M7 : Hid (Below w.heap.size w w7 ∧ Cell4 w7 w1.heap.size (.int .i64 xk) (.int .i64 xn) (.string xs) (.slice xa xl xc) ∧ Tre w7 (fun g => w.heap.size ≤ g) (.agg #[.int .i64 zk, .int .i64 zn, .string zs, .slice za zl zc]) litR ∧ Cell4 w7 w5.heap.size (.int .i64 zk) (.int .i64 zn) (.string zs) (.slice za zl zc) ∧ Cell4 w7 w2.heap.size (.int .i64 12) (.int .i64 0) (.string ys) (.slice (some ⟨yg, yo, none⟩) 2 yc) ∧ w7.cell? ⟨yg, yo + 4 + 1, none⟩ = some (.int .i64 6)) := ⟨M6.out.1.trans (HB.mono M6.out.1.size), M6.out.2.2.1.below HB, M6.out.2.2.2.1.below HB, M6.out.2.2.2.2.1.below HB, M6.out.2.2.2.2.2.1.below HB, (HB.cell (p := ⟨yg, yo + 4 + 1, none⟩) (World.block_lt_of_cell? _ _ M6.out.2.2.2.2.2.2)).trans M6.out.2.2.2.2.2.2⟩; obtain ⟨x0, x1, x2, x3, x4⟩ := M7.out.2.1; obtain ⟨z0, z1, z2, z3, z4⟩ := M7.out.2.2.2.1; obtain ⟨y0, y1, y2, y3, y4⟩ := M7.out.2.2.2.2.1; have hz := World.block_lt_of_cell? _ _ z0; have hy := World.block_lt_of_cell? _ _ y0; clear HB M6)
    | (go_at_call 15; have := M5; refine (names_ren _ _ _ _ _ _ _ _ (M5.out.2.2.2.1.alloc _)).mono ?_; rintro e w6 ⟨ug, uc, rfl, hu1, hu2, hu3, HB⟩; have M6 : Hid (Below w.heap.size w w6 ∧ Tre w6 (fun g => w.heap.size ≤ g) (.agg #[.int .i64 xk, .int .i64 xn, .string xs, .slice xa xl xc]) litT ∧ Cell4 w6 w1.heap.size (.int .i64 xk) (.int .i64 xn) (.string xs) (.slice xa xl xc) ∧ Tre w6 (fun g => w.heap.size ≤ g) (.agg #[.int .i64 zk, .int .i64 zn, .string zs, .slice za zl zc]) litR ∧ Cell4 w6 w5.heap.size (.int .i64 zk) (.int .i64 zn) (.string zs) (.slice za zl zc) ∧ Cell4 w6 w2.heap.size (.int .i64 12) (.int .i64 0) (.string ys) (.slice (some ⟨yg, yo, none⟩) 2 yc) ∧ w6.cell? ⟨yg, yo + 4 + 1, none⟩ = some (.int .i64 6)) := ⟨(M5.out.1.alloc M5.out.1.size _).trans (HB.mono (Nat.le_trans M5.out.1.size (le_alloc _ _))), (M5.out.2.1.alloc _).below HB, (M5.out.2.2.1.alloc _).below HB, (M5.out.2.2.2.1.alloc _).below HB, (Cell4.new w5 _ _ _ _ 24).below HB, (M5.out.2.2.2.2.1.alloc _).below HB, ((HB.cell (p := ⟨yg, yo + 4 + 1, none⟩) (Nat.lt_of_lt_of_le (World.block_lt_of_cell? _ _ M5.out.2.2.2.2.2) (le_alloc _ _))).trans ((((Below.refl _ _).alloc (Nat.le_refl _) _).cell (p := ⟨yg, yo + 4 + 1, none⟩) (World.block_lt_of_cell? _ _ M5.out.2.2.2.2.2)).trans M5.out.2.2.2.2.2))⟩; obtain ⟨x0, x1, x2, x3, x4⟩ := M6.out.2.2.1; obtain ⟨z0, z1, z2, z3, z4⟩ := M6.out.2.2.2.2.1; obtain ⟨y0, y1, y2, y3, y4⟩ := M6.out.2.2.2.2.2.1; have y5 := M6.out.2.2.2.2.2.2; have hyg := World.block_lt_of_cell? _ _ y5; have hx := World.block_lt_of_cell? _ _ x0; have hz := World.block_lt_of_cell? _ _ z0; have hy := World.block_lt_of_cell? _ _ y0; clear HB M5)
    | (go_at_call 11; have := M4; refine (ren_lit _ _ _ _ _ _ _ _ M4.out.2.1).mono ?_; rintro e w5 ⟨zk, zn, zs, za, zl, zc, rfl, hzt, HB⟩; have M5 : Hid (Below w.heap.size w w5 ∧ Tre w5 (fun g => w.heap.size ≤ g) (.agg #[.int .i64 xk, .int .i64 xn, .string xs, .slice xa xl xc]) litT ∧ Cell4 w5 w1.heap.size (.int .i64 xk) (.int .i64 xn) (.string xs) (.slice xa xl xc) ∧ Tre w5 (fun g => w.heap.size ≤ g) (.agg #[.int .i64 zk, .int .i64 zn, .string zs, .slice za zl zc]) litR ∧ Cell4 w5 w2.heap.size (.int .i64 12) (.int .i64 0) (.string ys) (.slice (some ⟨yg, yo, none⟩) 2 yc) ∧ w5.cell? ⟨yg, yo + 4 + 1, none⟩ = some (.int .i64 6)) := ⟨M4.out.1.trans (HB.mono M4.out.1.size), M4.out.2.1.below HB, M4.out.2.2.1.below HB, hzt.sub (fun g hg => Nat.le_trans M4.out.1.size hg), M4.out.2.2.2.1.below HB, (HB.cell (p := ⟨yg, yo + 4 + 1, none⟩) (World.block_lt_of_cell? _ _ M4.out.2.2.2.2)).trans M4.out.2.2.2.2⟩; obtain ⟨y0, y1, y2, y3, y4⟩ := M5.out.2.2.2.2.1; have hy := World.block_lt_of_cell? _ _ y0; have hy2 : w2.heap.size < w5.heap.size + 1 := Nat.lt_succ_of_lt hy; clear HB M4 hzt)
    | (go_at_call 9; have := M3; refine (truth_not _).mono ?_; rintro e w4 ⟨rfl, HB⟩; have M4 : Hid (Below w.heap.size w w4 ∧ Tre w4 (fun g => w.heap.size ≤ g) (.agg #[.int .i64 xk, .int .i64 xn, .string xs, .slice xa xl xc]) litT ∧ Cell4 w4 w1.heap.size (.int .i64 xk) (.int .i64 xn) (.string xs) (.slice xa xl xc) ∧ Cell4 w4 w2.heap.size (.int .i64 12) (.int .i64 0) (.string ys) (.slice (some ⟨yg, yo, none⟩) 2 yc) ∧ w4.cell? ⟨yg, yo + 4 + 1, none⟩ = some (.int .i64 6)) := ⟨(M3.out.1.alloc M3.out.1.size _).trans (HB.mono (Nat.le_trans M3.out.1.size (le_alloc _ _))), (M3.out.2.1.alloc _).below HB, (M3.out.2.2.1.alloc _).below HB, (M3.out.2.2.2.1.alloc _).below HB, (HB.cell (p := ⟨yg, yo + 4 + 1, none⟩) (Nat.lt_of_lt_of_le (World.block_lt_of_cell? _ _ M3.out.2.2.2.2) (le_alloc _ _))).trans ((((Below.refl _ _).alloc (Nat.le_refl _) _).cell (p := ⟨yg, yo + 4 + 1, none⟩) (World.block_lt_of_cell? _ _ M3.out.2.2.2.2)).trans M3.out.2.2.2.2)⟩; obtain ⟨x0, x1, x2, x3, x4⟩ := M4.out.2.2.1; have hx := World.block_lt_of_cell? _ _ x0; clear HB M3)
    | (go_at_call 9; have := M2; refine (truth_lit _ _ _ _ _ _ _ _ (M2.out.2.1.alloc _)).mono ?_; rintro e w3 ⟨rfl, HB⟩; have M3 : Hid (Below w.heap.size w w3 ∧ Tre w3 (fun g => w.heap.size ≤ g) (.agg #[.int .i64 xk, .int .i64 xn, .string xs, .slice xa xl xc]) litT ∧ Cell4 w3 w1.heap.size (.int .i64 xk) (.int .i64 xn) (.string xs) (.slice xa xl xc) ∧ Cell4 w3 w2.heap.size (.int .i64 12) (.int .i64 0) (.string ys) (.slice (some ⟨yg, yo, none⟩) 2 yc) ∧ w3.cell? ⟨yg, yo + 4 + 1, none⟩ = some (.int .i64 6)) := ⟨(M2.out.1.alloc M2.out.1.size _).trans (HB.mono (Nat.le_trans M2.out.1.size (le_alloc _ _))), (M2.out.2.1.alloc _).below HB, (M2.out.2.2.1.alloc _).below HB, (Cell4.new w2 _ _ _ _ 24).below HB, (HB.cell (p := ⟨yg, yo + 4 + 1, none⟩) (Nat.lt_of_lt_of_le (World.block_lt_of_cell? _ _ M2.out.2.2.2) (le_alloc _ _))).trans ((((Below.refl _ _).alloc (Nat.le_refl _) _).cell (p := ⟨yg, yo + 4 + 1, none⟩) (World.block_lt_of_cell? _ _ M2.out.2.2.2)).trans M2.out.2.2.2)⟩; clear HB M2)
    | (go_at_call 17; have := M1; refine (fold_lit _ _ _ _ _ _ _ _ ((M1.out.2.alloc _).alloc _)).mono ?_; rintro e w2 ⟨yg, yo, ys, yc, rfl, hy6, hyc, HB⟩; have M2 : Hid (Below w.heap.size w w2 ∧ Tre w2 (fun g => w.heap.size ≤ g) (.agg #[.int .i64 xk, .int .i64 xn, .string xs, .slice xa xl xc]) litT ∧ Cell4 w2 w1.heap.size (.int .i64 xk) (.int .i64 xn) (.string xs) (.slice xa xl xc) ∧ w2.cell? ⟨yg, yo + 4 + 1, none⟩ = some (.int .i64 6)) := ⟨((M1.out.1.alloc M1.out.1.size _).alloc (Nat.le_trans M1.out.1.size (le_alloc _ _)) _).trans (HB.mono (Nat.le_trans M1.out.1.size (Nat.le_trans (le_alloc _ _) (le_alloc _ _)))), ((M1.out.2.alloc _).alloc _).below HB, ((Cell4.new w1 _ _ _ _ 24).alloc _).below HB, hy6⟩; obtain ⟨x0, x1, x2, x3, x4⟩ := M2.out.2.2.1; have hx := World.block_lt_of_cell? _ _ x0; have hx2 : w1.heap.size < w2.heap.size + 1 := Nat.lt_succ_of_lt hx; clear HB M1 hy6)
    | (go_at_call 21; refine (H21.out _).mono ?_; rintro e w1 ⟨⟨xk, xn, xs, xa, xl, xc, rfl, HT⟩, HB⟩; have M1 : Hid (Below w.heap.size w w1 ∧ Tre w1 (fun g => w.heap.size ≤ g) (.agg #[.int .i64 xk, .int .i64 xn, .string xs, .slice xa xl xc]) litT) := ⟨HB, HT⟩; clear HB HT))
  go_ret
  exact ⟨rfl, M8.out⟩
end
end Go.Proofs.Ytdnpbnhfakjhoaa
