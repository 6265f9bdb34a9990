/-
  The document's own after: its contract.
-/
import Derived.Test.YtlaiacjlphjmlaaRfA
import Derived.Test.YtlaiacjlphjmlaaFlQ
namespace Go.Proofs.Ytlaiacjlphjmlaa
open Go.RowKit
set_option linter.unusedVariables false

theorem PlsV.kindAt {w : World} {P : Nat → Prop} {a : Option Addr} {n c : Nat} {ps : List Pl} (h : PlsV w P (.slice a n c) ps) (hn : ps.length = n) {p : Nat} (hp : p < n) : ∃ qb qo, a = some ⟨qb, qo, none⟩ ∧ w.cell? ⟨qb, qo + p * 5, none⟩ = some (.int .i64 (kindP ps p)) := by
  obtain ⟨qb, qo, aa, ca, ao, co, rfl, _, hPA⟩ := h.at p (by rw [hn]; exact hp)
  exact ⟨qb, qo, rfl, hPA.c0⟩
theorem Iv.cut {w : World} {a : Option Addr} {c m : Nat} {l : List Nat} (h : Iv w (.slice a (m + 1) c) l) (hl : l.length = m + 1) : Iv w (.slice a m c) l.dropLast := by
  obtain ⟨a2, c2, e, h1, h2, h3⟩ := h
  injection e with e1 e2 e3
  subst e1; subst e3
  have hd : l.dropLast.length = m := by rw [List.length_dropLast, hl]; rfl
  refine ⟨a, c, by rw [hd], by omega, h2, ?_⟩
  rcases h3 with ⟨_, q, _⟩ | ⟨g, q1, q2⟩
  · rw [q] at hl; cases hl
  · refine .inr ⟨g, q1, fun j hj => ?_⟩
    rw [q2 j (by omega)]
    congr 2
    rw [List.getD_eq_getElem?_getD, List.getD_eq_getElem?_getD, List.getElem?_dropLast, if_pos (by omega)]
def AfP (w : World) (k : Int) (p : Nat) (l : List Nat) (e : Ending) (w' : World) : Prop := ∃ v', e = .returned (.tuple #[v', .bool (afterL k p l).2]) ∧ Iv w' v' (afterL k p l).1 ∧ (∀ k, v'.ownBlock = some k → w.heap.size ≤ k ∧ k < w'.heap.size) ∧ Below w.heap.size w w'
theorem Gw.own2 {α : Type} {R : Rdr α} {el sz : Nat} {w : World} {B : Nat} {v : Value} {ts : List α} (h : Gw R el sz w (B + 1) v ts) : ∀ k, v.ownBlock = some k → B ≤ k ∧ k < w.heap.size := fun k hk => ⟨Nat.le_of_succ_le (h.own k hk), by
  by_cases q : k < w.heap.size
  · exact q
  · exact absurd hk (h.off (by omega))⟩
theorem afP {w w' : World} {k : Int} {p : Nat} {l : List Nat} {x : List Nat} {b : Bool} {v' : Value} (h : afterL k p l = (x, b)) (hv : Iv w' v' x) (ho : ∀ k, v'.ownBlock = some k → w.heap.size ≤ k ∧ k < w'.heap.size) (hb : Below w.heap.size w w') : AfP w k p l (.returned (.tuple #[v', .bool b])) w' := ⟨v', by rw [h], by rw [h]; exact hv, ho, hb⟩
set_option maxRecDepth 100000 in
set_option maxHeartbeats 800000 in
theorem after_any (P : Nat → Prop) (ds : ByteArray) (ps : List Pl) (a : Option Addr) (n c p : Nat) (v : Value) (l : List Nat) (w : World) (hps : PlsV w P (.slice a n c) ps) (hn : ps.length = n) (h4 : n ≤ 4096) (hp : p < n) (hv : Iv w v l) (hl : l.length ≤ 4096) :
    Calls Try.prog 38 #[.agg #[.string ds, .slice a n c], .int .i64 p, v] w (AfP w (kindP ps p) p l) := by
  have HV : Hid (∀ o, Iv (w.alloc o) v l) := fun o => hv.below ((Below.refl _ _).alloc (Nat.le_refl _) o)
  obtain ⟨hc1, hc2⟩ := hps.cap
  have HLn : Hid (([] : List Nat).length + l.length ≤ 1048576) := by show _ ≤ _; simp; omega
  have HK : Hid (∀ w', Below w.heap.size w w' → ∃ qb qo, a = some ⟨qb, qo, none⟩ ∧ w'.cell? ⟨qb, qo + p * 5, none⟩ = some (.int .i64 (kindP ps p))) := fun w' q => (hps.kept (kept_below q)).kindAt hn hp
  obtain ⟨qb, qo, rfl, x0⟩ := HK.out w (Below.refl _ _)
  have HK2 : Hid (∀ w', Below w.heap.size w w' → w'.cell? ⟨qb, qo + p * 5, none⟩ = some (.int .i64 (kindP ps p))) := fun w' q => by
    obtain ⟨qb2, qo2, e, x⟩ := HK.out w' q
    injection e with e; injection e with e1 e2 _
    subst e1; subst e2; exact x
  have hlq := World.block_lt_of_cell? _ _ x0
  obtain ⟨va, vc, rfl, hvc1, hvc2, _⟩ := hv
  have HE : Hid (∀ x b, afterL (kindP ps p) p l = (x, b) → ∀ v' w', Iv w' v' x → (∀ k, v'.ownBlock = some k → w.heap.size ≤ k ∧ k < w'.heap.size) → Below w.heap.size w w' → AfP w (kindP ps p) p l (.returned (.tuple #[v', .bool b])) w') := fun x b q v' w' q1 q2 q3 => afP q q1 q2 q3
  have hA4 : kindP ps p = 4 → afterL (kindP ps p) p l = (l ++ [p], true) := fun q => by unfold afterL; rw [if_pos q]
  have hA5 : kindP ps p = 5 → l = [] → afterL (kindP ps p) p l = ([], false) := fun q q2 => by unfold afterL; rw [if_neg (by rw [q]; decide), if_pos q, if_pos q2]
  have hA5b : kindP ps p = 5 → l ≠ [] → afterL (kindP ps p) p l = (l.dropLast, true) := fun q q2 => by unfold afterL; rw [if_neg (by rw [q]; decide), if_pos q, if_neg q2]
  have hA8 : kindP ps p = 8 → afterL (kindP ps p) p l = ([], decide (l = [])) := fun q => by unfold afterL; rw [if_neg (by rw [q]; decide), if_neg (by rw [q]; decide), if_pos q]
  have hA0 : kindP ps p ≠ 4 → kindP ps p ≠ 5 → kindP ps p ≠ 8 → afterL (kindP ps p) p l = (l, true) := fun q1 q2 q3 => by unfold afterL; rw [if_neg q1, if_neg q2, if_neg q3]
  clear hps HK x0
  generalize hkk : kindP ps p = kk at *
  clear hkk
  generalize hQ : AfP w kk p l = Q at *
  clear hQ
  by_cases h4k : kk = 4
  · have HF : Hid (∀ v' w', Iv w' v' (l ++ [p]) → (∀ k, v'.ownBlock = some k → w.heap.size ≤ k ∧ k < w'.heap.size) → Below w.heap.size w w' → Q (.returned (.tuple #[v', .bool true])) w') := HE.out _ _ (hA4 h4k)
    subst h4k
    clear HE hA4 hA5 hA5b hA8 hA0
    go_enter Try.func38, Try.ntmps38
    go_wp2_with (first
      | (at_builtin; have := HG; refine list_int (y := p) rfl (.tmp 20) (.tmp 22) rfl HG.out.1 hly rfl rfl rfl (by omega) ?_; intro v6 w6 h6 hg6; obtain ⟨ya, yc, rfl⟩ := h6.form1; have G6 : Hid (Gw intR 3 1 w6 (w.heap.size + 1) (.slice ya (l.length + 1) yc) (l ++ [p]) ∧ Below w.heap.size w w6) := ⟨h6, ((HG.out.2.alloc HG.out.2.size _).grown hg6 (Nat.le_trans HG.out.2.size (le_alloc _ _)) fun k hk => Nat.le_of_succ_le (HG.out.1.own k hk))⟩; clear h6 hg6)
      | (at_builtin; refine spread_int (B := w.heap.size + 1) rfl (.tmp 9) (.tmp 10) rfl (Gw.nil _ _ _ _ _) (HV.out _) (by rw [size_alloc]; omega) rfl rfl HLn.out ?_; intro v5 w5 h5 hb5 _; rw [List.nil_append] at h5; obtain ⟨xa, xc, rfl⟩ := h5.form; have C5 : Cell2 w5 w.heap.size (.string ds) (.slice (some ⟨qb, qo, none⟩) n c) := (Cell2.new w (.string ds) (.slice (some ⟨qb, qo, none⟩) n c) 24).kept (hb5.block _ (Nat.lt_succ_self _)); obtain ⟨y0, y1, yf⟩ := C5; have hly := World.block_lt_of_cell? _ _ y0; have HG : Hid (Gw intR 3 1 w5 (w.heap.size + 1) (.slice xa l.length xc) l ∧ Below w.heap.size w w5) := ⟨h5, ((Below.refl _ _).alloc (Nat.le_refl _) _).trans (hb5.mono (Nat.le_succ _))⟩; have x0 := HK2.out w5 HG.out.2; have hlq5 := World.block_lt_of_cell? _ _ x0; clear h5 hb5))
    exact HF.out _ _ (gw_iv G6.out.1) G6.out.1.own2 G6.out.2
  · by_cases h5k : kk = 5
    · by_cases hnil : l = []
      · have HF : Hid (∀ v' w', Iv w' v' [] → (∀ k, v'.ownBlock = some k → w.heap.size ≤ k ∧ k < w'.heap.size) → Below w.heap.size w w' → Q (.returned (.tuple #[v', .bool false])) w') := HE.out _ _ (hA5 h5k hnil)
        subst h5k
        have hl0 : l.length = 0 := by rw [hnil]; rfl
        clear HE hA4 hA5 hA5b hA8 hA0 hnil h4k
        go_enter Try.func38, Try.ntmps38
        go_wp2_with (at_builtin; refine spread_int (B := w.heap.size + 1) rfl (.tmp 9) (.tmp 10) rfl (Gw.nil _ _ _ _ _) (HV.out _) (by rw [size_alloc]; omega) rfl rfl HLn.out ?_; intro v5 w5 h5 hb5 _; rw [List.nil_append] at h5; obtain ⟨xa, xc, rfl⟩ := h5.form; have C5 : Cell2 w5 w.heap.size (.string ds) (.slice (some ⟨qb, qo, none⟩) n c) := (Cell2.new w (.string ds) (.slice (some ⟨qb, qo, none⟩) n c) 24).kept (hb5.block _ (Nat.lt_succ_self _)); obtain ⟨y0, y1, yf⟩ := C5; have hly := World.block_lt_of_cell? _ _ y0; have HG : Hid (Gw intR 3 1 w5 (w.heap.size + 1) (.slice xa l.length xc) l ∧ Below w.heap.size w w5) := ⟨h5, ((Below.refl _ _).alloc (Nat.le_refl _) _).trans (hb5.mono (Nat.le_succ _))⟩; have x0 := HK2.out w5 HG.out.2; have hlq5 := World.block_lt_of_cell? _ _ x0; rw [hl0] at *; clear h5 hb5)
        exact HF.out _ _ (Iv.nil _) (fun k hk => by cases hk) HG.out.2
      · have HF : Hid (∀ v' w', Iv w' v' l.dropLast → (∀ k, v'.ownBlock = some k → w.heap.size ≤ k ∧ k < w'.heap.size) → Below w.heap.size w w' → Q (.returned (.tuple #[v', .bool true])) w') := HE.out _ _ (hA5b h5k hnil)
        subst h5k
        obtain ⟨m, hm⟩ : ∃ m, l.length = m + 1 := ⟨l.length - 1, by have := List.length_pos_iff.mpr hnil; omega⟩
        have HM : Hid (l.length = m + 1) := hm
        have hm4 : m ≤ 4096 := by omega
        clear HE hA4 hA5 hA5b hA8 hA0 hnil h4k
        go_enter Try.func38, Try.ntmps38
        go_wp2_with (at_builtin; refine spread_int (B := w.heap.size + 1) rfl (.tmp 9) (.tmp 10) rfl (Gw.nil _ _ _ _ _) (HV.out _) (by rw [size_alloc]; omega) rfl rfl HLn.out ?_; intro v5 w5 h5 hb5 _; rw [List.nil_append] at h5; obtain ⟨xa, xc, rfl⟩ := h5.form; have C5 : Cell2 w5 w.heap.size (.string ds) (.slice (some ⟨qb, qo, none⟩) n c) := (Cell2.new w (.string ds) (.slice (some ⟨qb, qo, none⟩) n c) 24).kept (hb5.block _ (Nat.lt_succ_self _)); obtain ⟨y0, y1, yf⟩ := C5; have hly := World.block_lt_of_cell? _ _ y0; have HG : Hid (Gw intR 3 1 w5 (w.heap.size + 1) (.slice xa l.length xc) l ∧ Below w.heap.size w w5) := ⟨h5, ((Below.refl _ _).alloc (Nat.le_refl _) _).trans (hb5.mono (Nat.le_succ _))⟩; have x0 := HK2.out w5 HG.out.2; have hlq5 := World.block_lt_of_cell? _ _ x0; have HI : Hid (Iv w5 (.slice xa m xc) l.dropLast ∧ ∀ k, (Value.slice xa m xc).ownBlock = some k → w.heap.size ≤ k ∧ k < w5.heap.size) := (by have q := gw_iv h5; have q2 := h5.own2; rw [HM.out] at q q2; refine ⟨q.cut HM.out, fun k hk => q2 k ?_⟩; cases xa with | none => cases hk | some x => exact hk); have hxc : m + 1 ≤ xc := (by obtain ⟨_, _, e, q, _, _⟩ := gw_iv h5; injection e with e1 e2 e3; rw [e3, ← HM.out]; exact q); rw [hm] at *; clear h5 hb5)
        exact HF.out _ _ HI.out.1 HI.out.2 HG.out.2
    · by_cases h8k : kk = 8
      · have HF : Hid (∀ v' w', Iv w' v' [] → (∀ k, v'.ownBlock = some k → w.heap.size ≤ k ∧ k < w'.heap.size) → Below w.heap.size w w' → Q (.returned (.tuple #[v', .bool (decide (l = []))])) w') := HE.out _ _ (hA8 h8k)
        subst h8k
        clear HE hA4 hA5 hA5b hA8 hA0 h4k h5k
        by_cases hnil : l = []
        · have hl0 : l.length = 0 := by rw [hnil]; rfl
          rw [decide_eq_true hnil] at HF
          clear hnil
          go_enter Try.func38, Try.ntmps38
          go_wp2_with (at_builtin; refine spread_int (B := w.heap.size + 1) rfl (.tmp 9) (.tmp 10) rfl (Gw.nil _ _ _ _ _) (HV.out _) (by rw [size_alloc]; omega) rfl rfl HLn.out ?_; intro v5 w5 h5 hb5 _; rw [List.nil_append] at h5; obtain ⟨xa, xc, rfl⟩ := h5.form; have C5 : Cell2 w5 w.heap.size (.string ds) (.slice (some ⟨qb, qo, none⟩) n c) := (Cell2.new w (.string ds) (.slice (some ⟨qb, qo, none⟩) n c) 24).kept (hb5.block _ (Nat.lt_succ_self _)); obtain ⟨y0, y1, yf⟩ := C5; have hly := World.block_lt_of_cell? _ _ y0; have HG : Hid (Gw intR 3 1 w5 (w.heap.size + 1) (.slice xa l.length xc) l ∧ Below w.heap.size w w5) := ⟨h5, ((Below.refl _ _).alloc (Nat.le_refl _) _).trans (hb5.mono (Nat.le_succ _))⟩; have x0 := HK2.out w5 HG.out.2; have hlq5 := World.block_lt_of_cell? _ _ x0; rw [hl0] at *; clear h5 hb5)
          exact HF.out _ _ (Iv.nil _) (fun k hk => by cases hk) HG.out.2
        · have hl0 : 0 < l.length := List.length_pos_iff.mpr hnil
          rw [decide_eq_false hnil] at HF
          clear hnil
          have hl1 : ¬ ((l.length : Nat) : Int) = 0 := by omega
          have hl2 : (((l.length : Nat) : Int) == 0) = false := by rw [beq_eq_false_iff_ne]; exact hl1
          have hl3 : decide (((l.length : Nat) : Int) = 0) = false := decide_eq_false hl1
          go_enter Try.func38, Try.ntmps38
          go_wp2_with (at_builtin; refine spread_int (B := w.heap.size + 1) rfl (.tmp 9) (.tmp 10) rfl (Gw.nil _ _ _ _ _) (HV.out _) (by rw [size_alloc]; omega) rfl rfl HLn.out ?_; intro v5 w5 h5 hb5 _; rw [List.nil_append] at h5; obtain ⟨xa, xc, rfl⟩ := h5.form; have C5 : Cell2 w5 w.heap.size (.string ds) (.slice (some ⟨qb, qo, none⟩) n c) := (Cell2.new w (.string ds) (.slice (some ⟨qb, qo, none⟩) n c) 24).kept (hb5.block _ (Nat.lt_succ_self _)); obtain ⟨y0, y1, yf⟩ := C5; have hly := World.block_lt_of_cell? _ _ y0; have HG : Hid (Gw intR 3 1 w5 (w.heap.size + 1) (.slice xa l.length xc) l ∧ Below w.heap.size w w5) := ⟨h5, ((Below.refl _ _).alloc (Nat.le_refl _) _).trans (hb5.mono (Nat.le_succ _))⟩; have x0 := HK2.out w5 HG.out.2; have hlq5 := World.block_lt_of_cell? _ _ x0; clear h5 hb5)
          exact HF.out _ _ (Iv.nil _) (fun k hk => by cases hk) HG.out.2
      · have HF : Hid (∀ v' w', Iv w' v' l → (∀ k, v'.ownBlock = some k → w.heap.size ≤ k ∧ k < w'.heap.size) → Below w.heap.size w w' → Q (.returned (.tuple #[v', .bool true])) w') := HE.out _ _ (hA0 h4k h5k h8k)
        clear HE hA4 hA5 hA5b hA8 hA0
        go_enter Try.func38, Try.ntmps38
        go_wp2_with (at_builtin; refine spread_int (B := w.heap.size + 1) rfl (.tmp 9) (.tmp 10) rfl (Gw.nil _ _ _ _ _) (HV.out _) (by rw [size_alloc]; omega) rfl rfl HLn.out ?_; intro v5 w5 h5 hb5 _; rw [List.nil_append] at h5; obtain ⟨xa, xc, rfl⟩ := h5.form; have C5 : Cell2 w5 w.heap.size (.string ds) (.slice (some ⟨qb, qo, none⟩) n c) := (Cell2.new w (.string ds) (.slice (some ⟨qb, qo, none⟩) n c) 24).kept (hb5.block _ (Nat.lt_succ_self _)); obtain ⟨y0, y1, yf⟩ := C5; have hly := World.block_lt_of_cell? _ _ y0; have HG : Hid (Gw intR 3 1 w5 (w.heap.size + 1) (.slice xa l.length xc) l ∧ Below w.heap.size w w5) := ⟨h5, ((Below.refl _ _).alloc (Nat.le_refl _) _).trans (hb5.mono (Nat.le_succ _))⟩; have x0 := HK2.out w5 HG.out.2; have hlq5 := World.block_lt_of_cell? _ _ x0; clear h5 hb5)
        exact HF.out _ _ (gw_iv HG.out.1) HG.out.1.own2 HG.out.2
end Go.Proofs.Ytlaiacjlphjmlaa
