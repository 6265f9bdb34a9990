/-
  The document's own Rows: its contract.
-/
import Derived.Test.YtlaiacjlphjmlaaRfC
import Derived.Test.YtlaiacjlphjmlaaFwG
import Derived.Test.YtlaiacjlphjmlaaFlP
namespace Go.Proofs.Ytlaiacjlphjmlaa
open Go.RowKit
set_option linter.unusedVariables false

theorem infoW : (Try.prog.info? 64).map (fun i => (i.zero, i.size, i.bytes)) = some (some (.agg #[.bool false, .slice none 0 0]), 2, 32) := by kernel_rfl
theorem make_rows (n : Nat) (hn : n ≤ 4096) (w : World) : (Instr.makeSlice 60 (.int .i64 (n : Int)) (.int .i64 (n : Int))).run Try.prog w = .ok (.slice (some ⟨w.heap.size, 0, none⟩) n n) (w.alloc (.cells (madeCells #[.bool false, .slice none 0 0] (n * 2)) 64)) := by
  obtain ⟨i, hi, hz, hs, hb⟩ := info_parts infoW
  have := run_make w 60 64 i _ Try.underlying60 hi hz .i64 .i64 n n (by omega) (by omega) (by rw [hb]; omega) (by omega)
  rw [hs] at this
  have e : (Value.agg #[.bool false, .slice none 0 0]).cells = #[.bool false, .slice none 0 0] := by rfl
  rw [e] at this
  simpa using this
theorem made_two (z0 z1 : Value) (n i : Nat) (h : i < n * 2) : (madeCells #[z0, z1] (n * 2))[i]? = some (if i % 2 = 0 then z0 else z1) := by
  unfold madeCells
  rw [Array.getElem?_map, Array.getElem?_range, if_pos h]
  have : i % 2 = 0 ∨ i % 2 = 1 := by omega
  rcases this with q | q
  · simp [q]
  · simp [q]
/-- The walk in memory, and what it keeps. -/
structure Rv (w0 w : World) (R J n : Nat) (ds : ByteArray) (a : Option Addr) (c : Nat) (ps : List Pl) (k kj : Nat) (ov : Value) (s : Fs) : Prop where
  rs : Rs w R R J n ov s
  fin : Fin ps n k kj s
  nd : s.od.Nodup
  b : Below w0.heap.size w0 w
  box : Cell2 w w0.heap.size (.string ds) (.slice a n c)
section
variable {w0 w w' : World} {R J n : Nat} {ds : ByteArray} {a : Option Addr} {c : Nat} {ps : List Pl} {k kj : Nat} {ov : Value} {s : Fs}
theorem Rv.below (h : Rv w0 w R J n ds a c ps k kj ov s) (hb : Below w.heap.size w w') : Rv w0 w' R J n ds a c ps k kj ov s := ⟨h.rs.below hb, h.fin, h.nd, h.b.trans (hb.mono h.b.size), h.box.below hb⟩
theorem Rv.go {ov' : Value} {s' : Fs} {k' kj' : Nat} (h : Rv w0 w R J n ds a c ps k kj ov s) (hR : w0.heap.size < R) (hb : Below R w w') (hr : Rs w' R R J n ov' s') (hf : Fin ps n k' kj' s') (hn : s'.od.Nodup) : Rv w0 w' R J n ds a c ps k' kj' ov' s' := ⟨hr, hf, hn, h.b.trans (hb.mono (by omega)), h.box.kept (hb.block _ hR)⟩
theorem Rv.fins {k' kj' : Nat} (h : Rv w0 w R J n ds a c ps k kj ov s) (hf : Fin ps n k' kj' s) : Rv w0 w R J n ds a c ps k' kj' ov s := ⟨h.rs, hf, h.nd, h.b, h.box⟩
end
theorem begin_cm (n : Nat) (hn : 0 < n) (i : Nat) : (beginS n).cm.getD i false = decide (0 = i) := by
  have := set_at (l := List.replicate n false) (p := 0) (by simpa using hn) true false i
  show ((List.replicate n false).set 0 true).getD i false = _
  rw [this]
  by_cases h : 0 = i
  · rw [if_pos h, decide_eq_true h]
  · rw [if_neg h, decide_eq_false h]; simp [List.getD_eq_getElem?_getD, List.getElem?_replicate]; split <;> rfl
theorem begin_dp (n : Nat) (hn : 0 < n) (i : Nat) : (beginS n).dp.getD i 0 = 0 := by
  have := set_at (l := List.replicate n 0) (p := 0) (by simpa using hn) 0 0 i
  show ((List.replicate n 0).set 0 0).getD i 0 = _
  rw [this]
  split
  · rfl
  · simp [List.getD_eq_getElem?_getD, List.getElem?_replicate]; split <;> rfl
theorem begin_row (n : Nat) (hn : 0 < n) (i : Nat) : rowL (beginS n) i = [] := by
  unfold rowL
  split
  · unfold chain; rw [begin_dp n hn]; rfl
  · rfl
theorem four_new (w : World) (o1 o2 o3 o4 : Obj) :
    let W := (((w.alloc o1).alloc o2).alloc o3).alloc o4
    W.heap[w.heap.size]? = some o1 ∧ W.heap[w.heap.size + 1]? = some o2 ∧ W.heap[w.heap.size + 1 + 1]? = some o3 ∧ W.heap[w.heap.size + 1 + 1 + 1]? = some o4 ∧ W.heap.size = w.heap.size + 1 + 1 + 1 + 1 ∧ Below w.heap.size w W := by
  have s1 := size_alloc w o1
  have s2 := size_alloc (w.alloc o1) o2
  have s3 := size_alloc ((w.alloc o1).alloc o2) o3
  have s4 := size_alloc (((w.alloc o1).alloc o2).alloc o3) o4
  have a1 := heap_alloc_new w o1
  have a2 := heap_alloc_new (w.alloc o1) o2
  have a3 := heap_alloc_new ((w.alloc o1).alloc o2) o3
  have a4 := heap_alloc_new (((w.alloc o1).alloc o2).alloc o3) o4
  have k2 : ∀ g, g < (w.alloc o1).heap.size → ((w.alloc o1).alloc o2).heap[g]? = (w.alloc o1).heap[g]? := fun g hg => heap_alloc_old _ _ hg
  have k3 : ∀ g, g < ((w.alloc o1).alloc o2).heap.size → (((w.alloc o1).alloc o2).alloc o3).heap[g]? = ((w.alloc o1).alloc o2).heap[g]? := fun g hg => heap_alloc_old _ _ hg
  have k4 : ∀ g, g < (((w.alloc o1).alloc o2).alloc o3).heap.size → ((((w.alloc o1).alloc o2).alloc o3).alloc o4).heap[g]? = (((w.alloc o1).alloc o2).alloc o3).heap[g]? := fun g hg => heap_alloc_old _ _ hg
  refine ⟨?_, ?_, ?_, ?_, ?_, ?_⟩
  · exact (k4 _ (by omega)).trans ((k3 _ (by omega)).trans ((k2 _ (by omega)).trans a1))
  · rw [s1] at a2; exact (k4 _ (by omega)).trans ((k3 _ (by omega)).trans a2)
  · rw [s2, s1] at a3; exact (k4 _ (by omega)).trans a3
  · rw [s3, s2, s1] at a4; exact a4
  · show ((((w.alloc o1).alloc o2).alloc o3).alloc o4).heap.size = _
    omega
  · exact ((((Below.refl _ _).alloc (Nat.le_refl _) _).alloc (by omega) _).alloc (by omega) _).alloc (by omega) _
theorem rs_begin (w : World) (n : Nat) (hn0 : 0 < n) (ds : ByteArray) (a : Option Addr) (c : Nat) (ps : List Pl) (Z Y : Array Value) (hZ : ∀ i, i < n * 2 → Z[i]? = some (if i % 2 = 0 then .bool false else .slice none 0 0)) (hY : ∀ i, i < n → Y[i]? = some (.int .i64 0)) :
    Rv w ((((w.alloc (.cells #[.string ds, .slice a n c] 24)).alloc (.cells ((Z.setIfInBounds 0 (.bool true)).setIfInBounds 1 (.slice none 0 0)) 64)).alloc (.cells Y 3)).alloc (.cells #[.int .i64 0] 3)) (w.heap.size + 1) (w.heap.size + 1 + 1) n ds a c ps 0 0 (.slice (some ⟨w.heap.size + 1 + 1 + 1, 0, none⟩) 1 1) (beginS n) := by
  obtain ⟨b1, b2, b3, b4, b5, b6⟩ := four_new w (.cells #[.string ds, .slice a n c] 24) (.cells ((Z.setIfInBounds 0 (.bool true)).setIfInBounds 1 (.slice none 0 0)) 64) (.cells Y 3) (.cells #[.int .i64 0] 3)
  refine ⟨⟨fun i hi => ?_, fun i => ?_, ⟨fun i hi => ?_, fun i => ?_⟩, ?_, ?_, ?_, by omega, by omega, by omega, by rw [b5]; omega, by rw [b5]; omega⟩, Fin.begin hn0, by simp [beginS, emptyS, Fs.enter], b6, ?_⟩
  · refine ⟨.slice none 0 0, ?_, ?_, ?_, fun k hk => by cases hk⟩
    · rw [cell_of_row _ _ _ _ 64 (0, 0) b2, begin_cm n hn0]
      by_cases h : 0 = i
      · subst h
        have := hZ 0 (by omega)
        have hz : 0 < Z.size := by rw [Array.getElem?_eq_some_iff] at this; exact this.1
        simp [hz]
      · rw [decide_eq_false h, Array.getElem?_setIfInBounds_ne (by omega), Array.getElem?_setIfInBounds_ne (by omega), hZ _ (by omega), if_pos (by omega)]
    · rw [cell_of_row _ _ _ _ 64 (0, 0) b2]
      have := hZ (i * 2 + 1) (by omega)
      by_cases h : 0 = i
      · subst h
        have h1 := this
        have hz : 1 < Z.size := by rw [Array.getElem?_eq_some_iff] at this; simpa using this.1
        simp [hz]
      · rw [Array.getElem?_setIfInBounds_ne (by omega), Array.getElem?_setIfInBounds_ne (by omega), this, if_neg (by omega)]
    · rw [begin_row n hn0]; exact Iv.nil _
  · simp only [World.frozen?]; rw [b2]; simp
  · have hi2 : i < n := by simpa [beginS, emptyS, Fs.enter] using hi
    rw [cell_of_row _ _ _ _ 3 (0, 0) b3, hY i hi2]
    show _ = some (Value.int .i64 ((List.replicate n 0).getD i 0 : Nat))
    simp [List.getD_eq_getElem?_getD, hi2]
  · simp only [World.frozen?]; rw [b3]; simp
  · refine gw_of_ints (ts := [0]) ⟨by simp, .inr ⟨_, 1, #[.int .i64 0], rfl, by omega, b4, Nat.le_refl _, by unfold maxLen; omega, by simp, by simp⟩⟩
  · intro q; injection q with q; have q : w.heap.size + 1 + 1 + 1 = w.heap.size + 1 := q; omega
  · intro q; injection q with q; have q : w.heap.size + 1 + 1 + 1 = w.heap.size + 1 + 1 := q; omega
  · refine ⟨?_, ?_, fun i => by simp only [World.frozen?]; rw [b1]; simp⟩ <;> (rw [cell_of_row _ _ _ _ 24 (0, 0) b1]; rfl)
theorem af_some {w w' : World} {k : Int} {p : Nat} {l x : List Nat} {b : Bool} {e : Ending} (h : afterL k p l = (x, b)) (q : AfP w k p l e w') : ∃ na nl nc, e = .returned (.tuple #[.slice na nl nc, .bool b]) ∧ nl = x.length ∧ Iv w' (.slice na nl nc) x ∧ (∀ k, (Value.slice na nl nc).ownBlock = some k → w.heap.size ≤ k ∧ k < w'.heap.size) ∧ Below w.heap.size w w' := by
  obtain ⟨v, rfl, q1, q2, q3⟩ := q
  rw [h] at q1 ⊢
  have q4 := q1
  obtain ⟨na, nc, rfl, _⟩ := q4
  exact ⟨na, _, nc, rfl, rfl, q1, q2, q3⟩
theorem apart_new {w w' : World} {R J n : Nat} {ov v : Value} {s : Fs} (h : Rs w R R J n ov s) (hv : ∀ k, v.ownBlock = some k → w.heap.size ≤ k ∧ k < w'.heap.size) : Apart w' R R J ov v := fun k hk => by
  obtain ⟨h1, h2⟩ := hv k hk
  have := h.lR
  have := h.lJ
  have := h.hi
  exact ⟨by omega, h2, by omega, by omega, fun q => absurd q (h.od.off h1)⟩
def goD (d : Df) : Nat × Fs := goS d.places (d.places.length + 1) 0 (beginS d.places.length)
def RowsP (d : Df) (w : World) (e : Ending) (w' : World) : Prop := Below w.heap.size w w' ∧ ∃ R J, e = .returned (.tuple #[.slice (some ⟨R, 0, none⟩) d.places.length d.places.length, .slice (some ⟨J, 0, none⟩) d.places.length d.places.length, .int .i64 ((goD d).1 : Nat)]) ∧ w.heap.size < R ∧ w.heap.size < J ∧ ((goD d).1 = 0 → ∃ ov, Rs w' R R J d.places.length ov (goD d).2)
set_option maxRecDepth 100000 in
set_option maxHeartbeats 4000000 in
theorem Rows_any (P : Nat → Prop) (d : Df) (a : Option Addr) (c : Nat) (w : World) (hd : DfV w P d a c) (hz : checkD d = 0) : Calls Try.prog 22 #[.agg #[.string (ba d.id), .slice a d.places.length c]] w (RowsP d w) := by
  have hfa := def_facts hz
  have hn : d.places.length ≤ 4096 := hfa.len
  have hn0 : 0 < d.places.length := hfa.pos
  have HK0 : Hid (kindP d.places 0 = 1) := (kind_start hz hn0).mpr rfl
  have HTo : Hid (∀ p, p < d.places.length → ∀ x ∈ outP d.places p, 0 ≤ x.to ∧ x.to.toNat < d.places.length) := flows_in hz
  have HPs : Hid (Plz w w.heap.size a c d.places.length d.places) := ⟨hd.places.kept fun g hg hl => ⟨rfl, hl⟩, rfl⟩
  obtain ⟨hc1, hc2⟩ := hd.places.cap
  have HEnd : Hid (∀ E s2 w' R J, goS d.places (d.places.length + 1) 0 (beginS d.places.length) = (E, s2) → Below w.heap.size w w' → w.heap.size < R → w.heap.size < J → (E = 0 → ∃ ov, Rs w' R R J d.places.length ov s2) → RowsP d w (.returned (.tuple #[.slice (some ⟨R, 0, none⟩) d.places.length d.places.length, .slice (some ⟨J, 0, none⟩) d.places.length d.places.length, .int .i64 (E : Nat)])) w') := fun E s2 w' R J q1 q2 q3 q4 q5 => by
    have e : goD d = (E, s2) := q1
    refine ⟨q2, R, J, by rw [e], q3, q4, ?_⟩
    rw [e]; exact q5
  have m1 : ∀ w : World, (Instr.makeSlice 27 (.int .i64 (d.places.length : Int)) (.int .i64 (d.places.length : Int))).run Try.prog w = .ok (.slice (some ⟨w.heap.size, 0, none⟩) d.places.length d.places.length) (w.alloc (.cells (madeCells #[.int .i64 0] d.places.length) 3)) := fun w => run_make_row' 27 3 (.int .i64 0) 8 Try.underlying27 infoI rfl .i64 .i64 d.places.length (by omega) (by omega) w
  have m2 := make_rows d.places.length hn
  have HAf : Hid (∀ w1 p v l, Plz w1 w.heap.size a c d.places.length d.places → p < d.places.length → Iv w1 v l → l.length ≤ 4096 → Calls Try.prog 38 #[.agg #[.string (ba d.id), .slice a d.places.length c], .int .i64 (p : Nat), v] w1 (AfP w1 (kindP d.places p) p l)) := fun w1 p v l q1 q2 q3 q4 => after_any _ _ _ _ _ _ _ _ _ _ q1.v rfl hn q2 q3 q4
  clear hd hz hfa
  generalize RowsP d w = Q at *
  generalize d.places.length = n at *
  generalize d.places = ps at *
  generalize ba d.id = ds at *
  have z0 : (madeCells #[.bool false, .slice none 0 0] (n * 2))[0]? = some (.bool false) := made_two _ _ n 0 (by omega)
  have z1 : (madeCells #[.bool false, .slice none 0 0] (n * 2))[1]? = some (.slice none 0 0) := made_two _ _ n 1 (by omega)
  have zs : (madeCells #[.bool false, .slice none 0 0] (n * 2)).size = n * 2 := size_madeCells _ _
  have HS0 : Hid (Rv w ((((w.alloc (.cells #[.string ds, .slice a n c] 24)).alloc (.cells (((madeCells #[.bool false, .slice none 0 0] (n * 2)).setIfInBounds 0 (.bool true)).setIfInBounds 1 (.slice none 0 0)) 64)).alloc (.cells (madeCells #[Value.int .i64 0] n) 3)).alloc (.cells #[.int .i64 0] 3)) (w.heap.size + 1) (w.heap.size + 1 + 1) n ds a c ps 0 0 (.slice (some ⟨w.heap.size + 1 + 1 + 1, 0, none⟩) 1 1) (beginS n)) := rs_begin w n hn0 ds a c ps _ _ (fun i hi => made_two _ _ n i hi) (fun i hi => made_at _ n i hi)
  generalize madeCells #[.bool false, .slice none 0 0] (n * 2) = Z at *
  generalize madeCells #[Value.int .i64 0] n = Y at *
  go_enter Try.func22, Try.ntmps22
  go_wp2
  clear m1 m2 z0 z1 zs
  obtain ⟨R, hRe⟩ : ∃ R, w.heap.size + 1 = R := ⟨_, rfl⟩
  obtain ⟨J, hJe⟩ : ∃ J, w.heap.size + 1 + 1 = J := ⟨_, rfl⟩
  have hdR : w.heap.size < R := by omega
  have hdJ : w.heap.size < J := by omega
  go_loopw [7, 8] (fun v i wr => ∃ (k : Nat), i = .int .i64 k ∧ k ≤ n ∧ Hid (∃ s1, k ≤ s1.od.length ∧ Rv w wr (w.heap.size + 1) (w.heap.size + 1 + 1) n ds a c ps k k v s1 ∧ goS ps (n + 1) 0 (beginS n) = goS ps (n + 1 - k) k s1)) (fun _ i _ => n + 1 - (intOf i).toNat)
  case atStart => exact ⟨0, rfl, Nat.zero_le _, beginS n, Nat.zero_le _, HS0.out, rfl⟩
  case round =>
    clear HS0
    rw [hJe, hRe] at *
    clear Z Y
    have HEnd : Hid (∀ E s2 w', goS ps (n + 1) 0 (beginS n) = (E, s2) → Below w.heap.size w w' → (E = 0 → ∃ ov, Rs w' R R J n ov s2) → Q (.returned (.tuple #[.slice (some ⟨R, 0, none⟩) n n, .slice (some ⟨J, 0, none⟩) n n, .int .i64 (E : Nat)])) w') := fun E s2 w' q1 q2 q3 => HEnd.out E s2 w' R J q1 q2 hdR hdJ q3
    clear hRe hJe
    obtain ⟨k, rfl, hkn, HR⟩ := hrel
    obtain ⟨s1, hks, hv1, hgo⟩ := HR.out
    have HV1 : Hid (Rv w wr R J n ds a c ps k k _ s1) := hv1
    have HGo : Hid (goS ps (n + 1) 0 (beginS n) = goS ps (n + 1 - k) k s1) := hgo
    have HF1 : Hid (Fin ps n k k s1) := hv1.fin
    have hol := hv1.fin.ok.len
    obtain ⟨b0, b1, bf⟩ := hv1.box
    have lb := World.block_lt_of_cell? _ _ b0
    clear hgo HR
    by_cases hlt : k < s1.od.length
    · obtain ⟨og, oc, rfl, ho1, ho2, ho3⟩ := hv1.rs.od.int_at hlt
      have lo := World.block_lt_of_cell? _ _ ho3
      have hat : s1.od.getD k 0 < n := getD_mem_or hv1.fin.ok.odl (by omega)
      have HSt : Hid (goS ps (n + 1 - k) k s1 = if (stepS ps s1 (s1.od.getD k 0)).1 ≠ 0 then stepS ps s1 (s1.od.getD k 0) else goS ps (n + 1 - (k + 1)) (k + 1) (stepS ps s1 (s1.od.getD k 0)).2) := by
        show _ = _
        rw [show n + 1 - k = (n + 1 - (k + 1)) + 1 by omega, goS, if_pos hlt]
      have HStep : Hid ((stepS ps s1 (s1.od.getD k 0)).1 = 0 → Fin ps n (k + 1) (k + 1) (stepS ps s1 (s1.od.getD k 0)).2) := fun q => HF1.out.step HK0.out (fun p hp x hx => (HTo.out p hp x hx).2) hlt q
      have HLv : Hid ((leaveS ps s1 (s1.od.getD k 0)).2.1 = 0 → Fin ps n k (k + 1) (leaveS ps s1 (s1.od.getD k 0)).2.2 ∧ Gro s1 (leaveS ps s1 (s1.od.getD k 0)).2.2) := fun q => ⟨(HF1.out.leave HK0.out hlt q).1, (HF1.out.leave HK0.out hlt q).2.1⟩
      have hla := leave_after HK0.out HF1.out HV1.out.nd hlt (p := s1.od.getD k 0) rfl
      have hcp : s1.cm.getD (s1.od.getD k 0) false = true := HF1.out.odc hlt
      have hLF : (leaveS ps s1 (s1.od.getD k 0)).1 < n := (HF1.out.ok.leave ps hat).2
      have HStp : Hid (stepS ps s1 (s1.od.getD k 0) = if (leaveS ps s1 (s1.od.getD k 0)).2.1 ≠ 0 then ((leaveS ps s1 (s1.od.getD k 0)).2.1, (leaveS ps s1 (s1.od.getD k 0)).2.2) else leadsS (leaveS ps s1 (s1.od.getD k 0)).1 (outP ps (s1.od.getD k 0)) (leaveS ps s1 (s1.od.getD k 0)).2.2) := rfl
      have HLo : Hid ((leaveS ps s1 (s1.od.getD k 0)).2.2.od = s1.od) := leave_od _ _ _
      generalize hpp : s1.od.getD k 0 = p at *
      clear hpp
      obtain ⟨rv, r1, r2, r3, r4⟩ := hv1.rs.rows p hat
      have hrl : rowL s1 p = chain s1 p := by unfold rowL; rw [if_pos hcp]
      rw [hrl] at r3
      have lR1 := World.block_lt_of_cell? _ _ r2
      have hche : chain s1 p = inn s1 (s1.fk.getD p 0) := chain_eq HF1.out hcp
      have hchl : (chain s1 p).length ≤ 16 := by rw [chain_len HF1.out _ _ rfl hcp]; exact getD_mem_le HF1.out.ok.dpl
      have HRd : Hid (Iv wr rv (chain s1 p)) := r3
      have HRa : Hid (Apart wr R R J _ rv) := r4
      have HCa : Hid (Calls Try.prog 38 #[.agg #[.string ds, .slice a n c], .int .i64 (p : Nat), rv] wr (AfP wr (kindP ps p) p (chain s1 p))) := HAf.out wr p rv _ (HPs.out.below hv1.b) hat r3 (by omega)
      obtain ⟨ra, rc, rfl, hrc1, hrc2, _⟩ := r3
      obtain ⟨qb, qo, ao, co, rfl, hx4, hfls, hqb⟩ := out_at HPs.out hat
      have HOuts : Hid (∀ wx, Below w.heap.size w wx → wx.cell? ⟨qb, qo + p * 5 + 4, none⟩ = some (.slice ao (outP ps p).length co) ∧ ∀ j (hj : j < (outP ps p).length), ∃ gb go ka kc, ao = some ⟨gb, go, none⟩ ∧ FlAt wx (fun g => g < w.heap.size) gb (go + j * 2) (outP ps p)[j] ka kc) := fun wx q => ⟨(cell_kept (q.block _ hqb) _).trans hx4, fun j hj => by
        obtain ⟨gb, go, ka, kc, e1, e2, e3⟩ := hfls.at j hj
        rw [getD_memF hj] at e3
        exact ⟨gb, go, ka, kc, e1, e3.kept e2 (kept_base q fun g hg => hg)⟩⟩
      have HKd : Hid (∀ wx, Below w.heap.size w wx → wx.cell? ⟨qb, qo + p * 5, none⟩ = some (.int .i64 (kindP ps p))) := fun wx q => by
        obtain ⟨qb2, qo2, e, x⟩ := (HPs.out.below q).v.kindAt HPs.out.len hat
        injection e with e; injection e with e1 e2 _
        subst e1; subst e2; exact x
      have HTp : Hid (∀ x ∈ outP ps p, 0 ≤ x.to ∧ x.to.toNat < n) := HTo.out p hat
      obtain ⟨fcap1, fcap2⟩ := hfls.cap
      clear hx4 hfls HAf HTo
      generalize outP ps p = outs at *
      generalize hFF : (leaveS ps s1 p).1 = F at *
      generalize hS2 : (leaveS ps s1 p).2.2 = S2 at *
      generalize hEE : (leaveS ps s1 p).2.1 = E at *
      clear hFF hS2 hEE
      by_cases hE : E = 0
      · subst hE
        obtain ⟨g1, g2, g3, g4⟩ := hla.1 rfl
        have HSt2 : Hid (stepS ps s1 p = leadsS F outs S2) := by show _ = _; rw [HStp.out, if_neg (by simp)]
        obtain ⟨hF2, hG2⟩ := HLv.out rfl
        have HF2 : Hid (Fin ps n k (k + 1) S2 ∧ Gro s1 S2) := ⟨hF2, hG2⟩
        have HIg : Hid (inn S2 F = inn s1 F) := inn_gro HF1.out hG2 g3
        have HGg : Hid (Good ps S2 F) := good_gro hG2 g3
        have HC2 : Hid (Calls Try.prog 38 #[.agg #[.string ds, .slice (some ⟨qb, qo, none⟩) n c], .int .i64 (p : Nat), .slice ra (chain s1 p).length rc] wr fun e w' => ∃ na nl nc, e = .returned (.tuple #[.slice na nl nc, .bool true]) ∧ nl = (inn s1 F).length ∧ Iv w' (.slice na nl nc) (inn s1 F) ∧ (∀ k, (Value.slice na nl nc).ownBlock = some k → wr.heap.size ≤ k ∧ k < w'.heap.size) ∧ Below wr.heap.size wr w') := HCa.out.mono fun e w' q => af_some (by rw [← g1, ← g2]) q
        have HL2 : Hid (k < S2.od.length) := by show _ < _; rw [HLo.out]; exact hlt
        clear HCa hla HLv hF2 hG2 g1 g2 g3 HStp
        rcases g4 with ⟨k5, hSS⟩ | ⟨k5, j1, j2, hSS⟩
        · clear hche
          subst hSS
          generalize kindP ps p = kk at *
          have hk5 : (kk == 5) = false := by rw [beq_eq_false_iff_ne]; exact k5
          go_wp2_with (go_at_call 38; refine HC2.out.mono ?_; rintro e w2 ⟨na, nl, nc, rfl, q0, q1, q2, q3⟩; have HV2 : Hid (Rv w w2 R J n ds (some ⟨qb, qo, none⟩) c ps k (k + 1) (.slice (some ⟨og, 0, none⟩) S2.od.length oc) S2 ∧ Good ps S2 F ∧ Iv w2 (.slice na nl nc) (inn S2 F) ∧ Apart w2 R R J (.slice (some ⟨og, 0, none⟩) S2.od.length oc) (.slice na nl nc) ∧ k < S2.od.length) := ⟨(HV1.out.below q3).fins HF2.out.1, HGg.out, q1, apart_new HV1.out.rs q2, HL2.out⟩; obtain ⟨y0, y1, yf⟩ := HV2.out.1.box; have ly := World.block_lt_of_cell? _ _ y0; have xk := HKd.out w2 HV2.out.1.b; have lxk := World.block_lt_of_cell? _ _ xk; clear q0 q1 q2 q3)
          all_goals (
            clear b0 b1 bf lb ho3 lo r1 r2 lR1 y0 y1 yf ly xk lxk
            have HFa : Hid (∀ wx, Below w.heap.size w wx → wx.cell? ⟨qb, qo + p * 5 + 4, none⟩ = some (.slice ao outs.length co) ∧ ∀ j (hj : j < outs.length), ∃ gb go ka kc, ao = some ⟨gb, go, none⟩ ∧ FlAt wx (fun g => g < w.heap.size) gb (go + j * 2) outs[j] ka kc) := HOuts.out
            clear HOuts
            go_loopw [14, 7] (fun i v wr => ∃ (j : Nat), i = .int .i64 j ∧ j ≤ outs.length ∧ Hid (∃ s3, Rv w wr R J n ds (some ⟨qb, qo, none⟩) c ps k (k + 1) v s3 ∧ leadsS F outs S2 = leadsS F (outs.drop j) s3 ∧ Good ps s3 F ∧ Iv wr (.slice na nl nc) (inn s3 F) ∧ Apart wr R R J v (.slice na nl nc) ∧ k < s3.od.length)) (fun i _ _ => outs.length - (intOf i).toNat)
            case atStart => exact ⟨0, rfl, Nat.zero_le _, S2, HV2.out.1, rfl, HV2.out.2.1, HV2.out.2.2.1, HV2.out.2.2.2.1, HV2.out.2.2.2.2⟩
            case round =>
              clear HV2
              obtain ⟨j, rfl, hj, HR2⟩ := hrel
              obtain ⟨s3, hv3, hls, hgd, hiv, hap, hkl⟩ := HR2.out
              have HV3 : Hid (Rv w wr R J n ds (some ⟨qb, qo, none⟩) c ps k (k + 1) _ s3) := hv3
              have HLs : Hid (leadsS F outs S2 = leadsS F (outs.drop j) s3) := hls
              have HGd : Hid (Good ps s3 F) := hgd
              have HIv : Hid (Iv wr (.slice na nl nc) (inn s3 F)) := hiv
              have HAp : Hid (Apart wr R R J _ (.slice na nl nc)) := hap
              obtain ⟨oa3, oc3, rfl⟩ := hv3.rs.od.form
              obtain ⟨b0, b1, bf⟩ := hv3.box
              have lb := World.block_lt_of_cell? _ _ b0
              obtain ⟨o4, hfl⟩ := HFa.out wr hv3.b
              have lq3 := World.block_lt_of_cell? _ _ o4
              have hol3 := hv3.fin.ok.len
              clear hls hgd hiv hap HR2
              by_cases hjl : j < outs.length
              · obtain ⟨gb, go, ka, kc, rfl, f0, f1, _, _⟩ := hfl j hjl
                have lf := World.block_lt_of_cell? _ _ f0
                obtain ⟨ht1, ht2⟩ := HTp.out _ (List.getElem_mem hjl)
                have HLs2 : Hid (leadsS F (outs.drop j) s3 = if (leadS s3 outs[j].to.toNat F).1 ≠ 0 then leadS s3 outs[j].to.toNat F else leadsS F (outs.drop (j + 1)) (leadS s3 outs[j].to.toNat F).2) := by
                  show _ = _
                  rw [List.drop_eq_getElem_cons hjl]; rfl
                obtain ⟨t, hte⟩ : ∃ t : Nat, outs[j].to = (t : Int) := ⟨outs[j].to.toNat, (Int.toNat_of_nonneg ht1).symm⟩
                rw [hte] at f0 ht2 HLs2
                rw [Int.toNat_natCast] at ht2 HLs2
                obtain ⟨rv, r1, r2, r3, r4⟩ := hv3.rs.rows t ht2
                have lR := World.block_lt_of_cell? _ _ r1
                have hrf0 := hv3.rs.rf (t * 2)
                have hrf1 := hv3.rs.rf (t * 2 + 1)
                have hLD : leadS s3 t F = if s3.cm.getD t false = true then (if s3.fk.getD t 0 ≠ F then (8, s3) else (0, s3)) else if 16 < deepS s3 F then (6, s3) else (0, s3.enter t F (deepS s3 F)) := rfl
                have HF3 : Hid (Fin ps n k (k + 1) s3) := hv3.fin
                have hnl : nl = deepS s3 F := by
                  obtain ⟨_, _, e, _⟩ := HIv.out
                  injection e with _ e _
                  rw [e]; exact inn_len hv3.fin HGd.out
                clear hte f1 hfl hv3 ht1
                by_cases hcm : s3.cm.getD t false = true
                · rw [if_pos hcm] at hLD
                  have hrl : rowL s3 t = inn s3 (s3.fk.getD t 0) := by unfold rowL; rw [if_pos hcm]; exact chain_eq HF3.out hcm
                  rw [hrl] at r3
                  rw [hcm] at r1
                  have HC : Hid (Calls Try.prog 23 #[rv, .slice na nl nc] wr fun e w' => e = .returned (.bool (decide (inn s3 (s3.fk.getD t 0) = inn s3 F))) ∧ Below wr.heap.size wr w') := same_any _ _ _ _ wr r3 HIv.out
                  obtain ⟨ra, rc, rfl, _⟩ := r3
                  clear r4 hrl hnl
                  by_cases hff : s3.fk.getD t 0 = F
                  · rw [if_neg (by omega)] at hLD
                    rw [hLD, if_neg (by simp)] at HLs2
                    have HC2 : Hid (Calls Try.prog 23 #[.slice ra (inn s3 (s3.fk.getD t 0)).length rc, .slice na nl nc] wr fun e w' => e = .returned (.bool true) ∧ Below wr.heap.size wr w') := by
                      have := HC.out
                      rw [decide_eq_true (by rw [hff])] at this
                      exact this
                    clear HC hLD hff
                    generalize (inn s3 (s3.fk.getD t 0)).length = rl at *
                    go_wp2_with (go_at_call 23; refine HC2.out.mono ?_; rintro e w4 ⟨rfl, q1⟩; have HB4 : Hid (Below wr.heap.size wr w4) := q1; clear q1)
                    go_roundw
                    case rel => exact ⟨j + 1, by go_num, by omega, s3, HV3.out.below HB4.out, HLs.out.trans HLs2.out, HGd.out, HIv.out.below HB4.out, HAp.out.size HB4.out.size, hkl⟩
                    case measure => simp [intOf]; omega
                  · rw [if_pos hff] at hLD
                    rw [hLD, if_pos (by simp)] at HLs2
                    have HC2 : Hid (Calls Try.prog 23 #[.slice ra (inn s3 (s3.fk.getD t 0)).length rc, .slice na nl nc] wr fun e w' => e = .returned (.bool false) ∧ Below wr.heap.size wr w') := by
                      have := HC.out
                      rw [decide_eq_false (fun q => hff (inn_inj q))] at this
                      exact this
                    have HFn : Hid (goS ps (n + 1) 0 (beginS n) = (8, s3)) := by
                      show _ = _
                      rw [HGo.out, HSt.out, HSt2.out, HLs.out, HLs2.out]; rfl
                    clear HC hLD hff
                    generalize (inn s3 (s3.fk.getD t 0)).length = rl at *
                    go_wp2_with (go_at_call 23; refine HC2.out.mono ?_; rintro e w4 ⟨rfl, q1⟩; have HB4 : Hid (Below wr.heap.size wr w4) := q1; clear q1)
                    try rw [Exit.noGoto_ret]
                    refine bodyPost_ret (v := .tuple #[.slice (some ⟨R, 0, none⟩) n n, .slice (some ⟨J, 0, none⟩) n n, .int .i64 8]) (by simp [results, Try.results22, go_sem]) rfl ?_
                    exact HEnd.out _ _ _ HFn.out (HV3.out.below HB4.out).b (fun q => by cases q)
                · rw [if_neg hcm] at hLD
                  have hcm2 : s3.cm.getD t false = false := by simpa using hcm
                  rw [hcm2] at r1
                  by_cases hdd : 16 < deepS s3 F
                  · rw [if_pos hdd] at hLD
                    rw [hLD, if_pos (by simp)] at HLs2
                    have HFn : Hid (goS ps (n + 1) 0 (beginS n) = (6, s3)) := by
                      show _ = _
                      rw [HGo.out, HSt.out, HSt2.out, HLs.out, HLs2.out]; rfl
                    rw [← hnl] at hdd
                    clear hLD hnl r3 r4 r2 hcm
                    go_wp2_with fail
                    try rw [Exit.noGoto_ret]
                    refine bodyPost_ret (v := .tuple #[.slice (some ⟨R, 0, none⟩) n n, .slice (some ⟨J, 0, none⟩) n n, .int .i64 6]) (by simp [results, Try.results22, go_sem]) rfl ?_
                    exact HEnd.out _ _ _ HFn.out HV3.out.b (fun q => by cases q)
                  · rw [if_neg hdd] at hLD
                    rw [hLD, if_neg (by simp)] at HLs2
                    have HRw : Hid (Rs ((wr.setCell ⟨R, t * 2, none⟩ (.bool true)).setCell ⟨R, t * 2 + 1, none⟩ (.slice na nl nc)) R R J n (.slice oa3 s3.od.length oc3) ⟨s3.fk.set t F, s3.dp.set t (deepS s3 F), s3.jn, s3.cm.set t true, s3.od⟩) := HV3.out.rs.row HF3.out ht2 hLF HGd.out (by omega) hcm2 HIv.out HAp.out
                    have HEn : Hid (Fin ps n k (k + 1) (s3.enter t F (deepS s3 F)) ∧ Gro s3 (s3.enter t F (deepS s3 F))) := ⟨(HF3.out.enter ht2 hLF HGd.out (by omega) hcm2).1, (HF3.out.enter ht2 hLF HGd.out (by omega) hcm2).2.1⟩
                    have HNd : Hid ((s3.enter t F (deepS s3 F)).od.Nodup) := enter_nodup HF3.out HV3.out.nd hcm2
                    have HIn : Hid (inn (s3.enter t F (deepS s3 F)) F = inn s3 F) := inn_gro HF3.out HEn.out.2 HGd.out
                    have HKe : Hid (k < (s3.enter t F (deepS s3 F)).od.length) := Nat.lt_of_lt_of_le hkl HEn.out.2.len
                    have HGe : Hid (Good ps (s3.enter t F (deepS s3 F)) F) := good_gro HEn.out.2 HGd.out
                    have HLn : Hid (s3.od.length ≤ 1048576) := by show _ ≤ _; omega
                    rw [← hnl] at hdd
                    clear hLD r3 r4 hcm hcm2 hkl hnl
                    go_wp2_with (at_builtin; refine list_int2 (y := t) rfl (.tmp 132) (.tmp 134) rfl HRw.out.od HRw.out.hi rfl rfl (by simp [World.setCell]) HLn.out ?_; intro v5 w5 h5 hg5 ho5; obtain ⟨va, vc, rfl⟩ := h5.form1; have HB5 : Hid (_ ∧ _ ∧ _ ∧ _) := HRw.out.add h5 hg5 (by simpa [World.setCell] using ho5); clear h5 hg5 ho5)
                    go_roundw
                    case rel =>
                      have HBx : Below R wr w5 := (((Below.refl R wr).setCell (p := ⟨R, t * 2, none⟩) (Nat.le_refl _) _).setCell (p := ⟨R, t * 2 + 1, none⟩) (Nat.le_refl _) _).trans HB5.out.2.1
                      have hAp2 : Apart ((wr.setCell ⟨R, t * 2, none⟩ (.bool true)).setCell ⟨R, t * 2 + 1, none⟩ (.slice na nl nc)) R R J (.slice oa3 s3.od.length oc3) (.slice na nl nc) := HAp.out.size (by rw [size_set, size_set]; exact Nat.le_refl _)
                      have hIv2 : Iv ((wr.setCell ⟨R, t * 2, none⟩ (.bool true)).setCell ⟨R, t * 2 + 1, none⟩ (.slice na nl nc)) (.slice na nl nc) (inn s3 F) := (HIv.out.set _ fun q => (HAp.out _ q).2.2.1 rfl).set _ fun q => (HAp.out _ q).2.2.1 rfl
                      exact ⟨j + 1, by go_num, by omega, s3.enter t F (deepS s3 F), HV3.out.go hdR HBx HB5.out.1 HEn.out.1 HNd.out, HLs.out.trans HLs2.out, HGe.out, by rw [HIn.out]; exact HB5.out.2.2.2 _ _ hAp2 hIv2, HB5.out.2.2.1 _ hAp2, HKe.out⟩
                    case measure => simp [intOf]; omega
              · have hjj : j = outs.length := by omega
                have HE0 : Hid (leadsS F outs S2 = (0, s3)) := by
                  show _ = _
                  rw [HLs.out, hjj, List.drop_length]; rfl
                have HNx : Hid (goS ps (n + 1) 0 (beginS n) = goS ps (n + 1 - (k + 1)) (k + 1) s3) := by
                  show _ = _
                  rw [HGo.out, HSt.out, HSt2.out, HE0.out]; simp
                have HFk : Hid (Fin ps n (k + 1) (k + 1) s3) := by
                  have := HStep.out (by rw [HSt2.out, HE0.out])
                  rw [HSt2.out, HE0.out] at this
                  exact this
                clear hfl
                go_wp2_with fail
                go_roundw
                case rel => exact ⟨k + 1, by go_num, by omega, s3, hkl, HV3.out.fins HFk.out, HNx.out⟩
                case measure => simp [intOf]; omega
            )
        · have hfn : s1.fk.getD p 0 < n := getD_mem_or HF1.out.ok.fkl (by omega)
          have HRJ : Hid (∀ wx, Below wr.heap.size wr wx → wx.cell? ⟨J, s1.fk.getD p 0, none⟩ = some (.int .i64 0) ∧ (∀ i, wx.frozen? ⟨J, i, none⟩ = false) ∧ Rv w (wx.setCell ⟨J, s1.fk.getD p 0, none⟩ (.int .i64 (p : Nat))) R J n ds (some ⟨qb, qo, none⟩) c ps k (k + 1) (.slice (some ⟨og, 0, none⟩) s1.od.length oc) S2) := fun wx q => by
            have hx := HV1.out.below q
            have hj := hx.rs.jn.c (s1.fk.getD p 0) (by rw [HF1.out.ok.jn]; exact hfn)
            rw [j2] at hj
            refine ⟨hj, hx.rs.jn.f, hx.go hdR ((Below.refl R wx).setCell (p := ⟨J, s1.fk.getD p 0, none⟩) hx.rs.hJ _) ?_ HF2.out.1 ?_⟩
            · rw [hSS]; exact hx.rs.join _ _
            · rw [HLo.out]; exact HV1.out.nd
          have hll : (chain s1 p).length = (chain s1 (s1.fk.getD p 0)).length + 1 := by rw [hche]; unfold inn; rw [if_neg j1, List.length_append]; rfl
          have hgl : (chain s1 p).getD (chain s1 (s1.fk.getD p 0)).length 0 = s1.fk.getD p 0 := by
            rw [hche]; unfold inn; rw [if_neg j1]; simp [List.getD_eq_getElem?_getD]
          have HRc : Hid (∀ wx, Below wr.heap.size wr wx → ∃ rg, ra = some ⟨rg, 0, none⟩ ∧ wx.cell? ⟨rg, (chain s1 (s1.fk.getD p 0)).length, none⟩ = some (.int .i64 (s1.fk.getD p 0 : Nat))) := fun wx q => by
            obtain ⟨a2, c2, e, _, _, q3⟩ := HRd.out.below q
            injection e with e1 e2 e3
            subst e1
            rcases q3 with ⟨_, q4, _⟩ | ⟨rg, q4, q5⟩
            · rw [q4] at hll; cases hll
            · refine ⟨rg, q4, ?_⟩
              rw [q5 _ (by omega), hgl]
          rw [hll] at HC2 r2 hrc1 hchl
          obtain ⟨rg, rfl, _⟩ := HRc.out wr (Below.refl _ _)
          have HRc2 : Hid (∀ wx, Below wr.heap.size wr wx → wx.cell? ⟨rg, (chain s1 (s1.fk.getD p 0)).length, none⟩ = some (.int .i64 (s1.fk.getD p 0 : Nat))) := fun wx q => by
            obtain ⟨r5, e, q2⟩ := HRc.out wx q
            injection e with e; injection e with e1 _ _
            subst e1; exact q2
          have HOl : Hid (S2.od = s1.od) := HLo.out
          clear hche hgl hll HRd HRc HRa hSS j2
          generalize s1.fk.getD p 0 = f at *
          generalize (chain s1 f).length = cl at *
          rw [k5] at HKd
          clear k5
          go_wp2_with (go_at_call 38; refine HC2.out.mono ?_; rintro e w2 ⟨na, nl, nc, rfl, q0, q1, q2, q3⟩; have HV2a : Hid (Iv w2 (.slice na nl nc) (inn S2 F) ∧ Apart w2 R R J (.slice (some ⟨og, 0, none⟩) s1.od.length oc) (.slice na nl nc) ∧ Below wr.heap.size wr w2) := ⟨by rw [HIg.out]; exact q1, apart_new HV1.out.rs q2, q3⟩; have HV5 : Hid (Rv w w2 R J n ds (some ⟨qb, qo, none⟩) c ps k k (.slice (some ⟨og, 0, none⟩) s1.od.length oc) s1) := HV1.out.below q3; obtain ⟨y0, y1, yf⟩ := HV5.out.box; have ly := World.block_lt_of_cell? _ _ y0; have xk := HKd.out w2 HV5.out.b; have lxk := World.block_lt_of_cell? _ _ xk; have xc := HRc2.out w2 q3; have lxc := World.block_lt_of_cell? _ _ xc; obtain ⟨xj, xf0, _⟩ := HRJ.out w2 q3; have xf := xf0 f; have lxj := World.block_lt_of_cell? _ _ xj; clear q0 q1 q2 q3 xf0)
          all_goals (
            have HV2 : Hid (Rv w (w2.setCell ⟨J, f, none⟩ (.int .i64 (p : Nat))) R J n ds (some ⟨qb, qo, none⟩) c ps k (k + 1) (.slice (some ⟨og, 0, none⟩) s1.od.length oc) S2 ∧ Good ps S2 F ∧ Iv (w2.setCell ⟨J, f, none⟩ (.int .i64 (p : Nat))) (.slice na nl nc) (inn S2 F) ∧ Apart (w2.setCell ⟨J, f, none⟩ (.int .i64 (p : Nat))) R R J (.slice (some ⟨og, 0, none⟩) s1.od.length oc) (.slice na nl nc) ∧ k < S2.od.length) := ⟨(HRJ.out w2 HV2a.out.2.2).2.2, HGg.out, HV2a.out.1.set _ fun q => (HV2a.out.2.1 _ q).2.2.2.1 rfl, HV2a.out.2.1.size (Nat.le_of_eq (size_set _ _ _).symm), HL2.out⟩
            clear b0 b1 bf lb ho3 lo r1 r2 lR1 y0 y1 yf ly xk lxk xc lxc xj xf lxj HRJ HRc2 HV2a HV5
            have HFa : Hid (∀ wx, Below w.heap.size w wx → wx.cell? ⟨qb, qo + p * 5 + 4, none⟩ = some (.slice ao outs.length co) ∧ ∀ j (hj : j < outs.length), ∃ gb go ka kc, ao = some ⟨gb, go, none⟩ ∧ FlAt wx (fun g => g < w.heap.size) gb (go + j * 2) outs[j] ka kc) := HOuts.out
            clear HOuts
            go_loopw [14, 7] (fun i v wr => ∃ (j : Nat), i = .int .i64 j ∧ j ≤ outs.length ∧ Hid (∃ s3, Rv w wr R J n ds (some ⟨qb, qo, none⟩) c ps k (k + 1) v s3 ∧ leadsS F outs S2 = leadsS F (outs.drop j) s3 ∧ Good ps s3 F ∧ Iv wr (.slice na nl nc) (inn s3 F) ∧ Apart wr R R J v (.slice na nl nc) ∧ k < s3.od.length)) (fun i _ _ => outs.length - (intOf i).toNat)
            case atStart => exact ⟨0, rfl, Nat.zero_le _, S2, HV2.out.1, rfl, HV2.out.2.1, HV2.out.2.2.1, HV2.out.2.2.2.1, HV2.out.2.2.2.2⟩
            case round =>
              clear HV2
              obtain ⟨j, rfl, hj, HR2⟩ := hrel
              obtain ⟨s3, hv3, hls, hgd, hiv, hap, hkl⟩ := HR2.out
              have HV3 : Hid (Rv w wr R J n ds (some ⟨qb, qo, none⟩) c ps k (k + 1) _ s3) := hv3
              have HLs : Hid (leadsS F outs S2 = leadsS F (outs.drop j) s3) := hls
              have HGd : Hid (Good ps s3 F) := hgd
              have HIv : Hid (Iv wr (.slice na nl nc) (inn s3 F)) := hiv
              have HAp : Hid (Apart wr R R J _ (.slice na nl nc)) := hap
              obtain ⟨oa3, oc3, rfl⟩ := hv3.rs.od.form
              obtain ⟨b0, b1, bf⟩ := hv3.box
              have lb := World.block_lt_of_cell? _ _ b0
              obtain ⟨o4, hfl⟩ := HFa.out wr hv3.b
              have lq3 := World.block_lt_of_cell? _ _ o4
              have hol3 := hv3.fin.ok.len
              clear hls hgd hiv hap HR2
              by_cases hjl : j < outs.length
              · obtain ⟨gb, go, ka, kc, rfl, f0, f1, _, _⟩ := hfl j hjl
                have lf := World.block_lt_of_cell? _ _ f0
                obtain ⟨ht1, ht2⟩ := HTp.out _ (List.getElem_mem hjl)
                have HLs2 : Hid (leadsS F (outs.drop j) s3 = if (leadS s3 outs[j].to.toNat F).1 ≠ 0 then leadS s3 outs[j].to.toNat F else leadsS F (outs.drop (j + 1)) (leadS s3 outs[j].to.toNat F).2) := by
                  show _ = _
                  rw [List.drop_eq_getElem_cons hjl]; rfl
                obtain ⟨t, hte⟩ : ∃ t : Nat, outs[j].to = (t : Int) := ⟨outs[j].to.toNat, (Int.toNat_of_nonneg ht1).symm⟩
                rw [hte] at f0 ht2 HLs2
                rw [Int.toNat_natCast] at ht2 HLs2
                obtain ⟨rv, r1, r2, r3, r4⟩ := hv3.rs.rows t ht2
                have lR := World.block_lt_of_cell? _ _ r1
                have hrf0 := hv3.rs.rf (t * 2)
                have hrf1 := hv3.rs.rf (t * 2 + 1)
                have hLD : leadS s3 t F = if s3.cm.getD t false = true then (if s3.fk.getD t 0 ≠ F then (8, s3) else (0, s3)) else if 16 < deepS s3 F then (6, s3) else (0, s3.enter t F (deepS s3 F)) := rfl
                have HF3 : Hid (Fin ps n k (k + 1) s3) := hv3.fin
                have hnl : nl = deepS s3 F := by
                  obtain ⟨_, _, e, _⟩ := HIv.out
                  injection e with _ e _
                  rw [e]; exact inn_len hv3.fin HGd.out
                clear hte f1 hfl hv3 ht1
                by_cases hcm : s3.cm.getD t false = true
                · rw [if_pos hcm] at hLD
                  have hrl : rowL s3 t = inn s3 (s3.fk.getD t 0) := by unfold rowL; rw [if_pos hcm]; exact chain_eq HF3.out hcm
                  rw [hrl] at r3
                  rw [hcm] at r1
                  have HC : Hid (Calls Try.prog 23 #[rv, .slice na nl nc] wr fun e w' => e = .returned (.bool (decide (inn s3 (s3.fk.getD t 0) = inn s3 F))) ∧ Below wr.heap.size wr w') := same_any _ _ _ _ wr r3 HIv.out
                  obtain ⟨ra, rc, rfl, _⟩ := r3
                  clear r4 hrl hnl
                  by_cases hff : s3.fk.getD t 0 = F
                  · rw [if_neg (by omega)] at hLD
                    rw [hLD, if_neg (by simp)] at HLs2
                    have HC2 : Hid (Calls Try.prog 23 #[.slice ra (inn s3 (s3.fk.getD t 0)).length rc, .slice na nl nc] wr fun e w' => e = .returned (.bool true) ∧ Below wr.heap.size wr w') := by
                      have := HC.out
                      rw [decide_eq_true (by rw [hff])] at this
                      exact this
                    clear HC hLD hff
                    generalize (inn s3 (s3.fk.getD t 0)).length = rl at *
                    go_wp2_with (go_at_call 23; refine HC2.out.mono ?_; rintro e w4 ⟨rfl, q1⟩; have HB4 : Hid (Below wr.heap.size wr w4) := q1; clear q1)
                    go_roundw
                    case rel => exact ⟨j + 1, by go_num, by omega, s3, HV3.out.below HB4.out, HLs.out.trans HLs2.out, HGd.out, HIv.out.below HB4.out, HAp.out.size HB4.out.size, hkl⟩
                    case measure => simp [intOf]; omega
                  · rw [if_pos hff] at hLD
                    rw [hLD, if_pos (by simp)] at HLs2
                    have HC2 : Hid (Calls Try.prog 23 #[.slice ra (inn s3 (s3.fk.getD t 0)).length rc, .slice na nl nc] wr fun e w' => e = .returned (.bool false) ∧ Below wr.heap.size wr w') := by
                      have := HC.out
                      rw [decide_eq_false (fun q => hff (inn_inj q))] at this
                      exact this
                    have HFn : Hid (goS ps (n + 1) 0 (beginS n) = (8, s3)) := by
                      show _ = _
                      rw [HGo.out, HSt.out, HSt2.out, HLs.out, HLs2.out]; rfl
                    clear HC hLD hff
                    generalize (inn s3 (s3.fk.getD t 0)).length = rl at *
                    go_wp2_with (go_at_call 23; refine HC2.out.mono ?_; rintro e w4 ⟨rfl, q1⟩; have HB4 : Hid (Below wr.heap.size wr w4) := q1; clear q1)
                    try rw [Exit.noGoto_ret]
                    refine bodyPost_ret (v := .tuple #[.slice (some ⟨R, 0, none⟩) n n, .slice (some ⟨J, 0, none⟩) n n, .int .i64 8]) (by simp [results, Try.results22, go_sem]) rfl ?_
                    exact HEnd.out _ _ _ HFn.out (HV3.out.below HB4.out).b (fun q => by cases q)
                · rw [if_neg hcm] at hLD
                  have hcm2 : s3.cm.getD t false = false := by simpa using hcm
                  rw [hcm2] at r1
                  by_cases hdd : 16 < deepS s3 F
                  · rw [if_pos hdd] at hLD
                    rw [hLD, if_pos (by simp)] at HLs2
                    have HFn : Hid (goS ps (n + 1) 0 (beginS n) = (6, s3)) := by
                      show _ = _
                      rw [HGo.out, HSt.out, HSt2.out, HLs.out, HLs2.out]; rfl
                    rw [← hnl] at hdd
                    clear hLD hnl r3 r4 r2 hcm
                    go_wp2_with fail
                    try rw [Exit.noGoto_ret]
                    refine bodyPost_ret (v := .tuple #[.slice (some ⟨R, 0, none⟩) n n, .slice (some ⟨J, 0, none⟩) n n, .int .i64 6]) (by simp [results, Try.results22, go_sem]) rfl ?_
                    exact HEnd.out _ _ _ HFn.out HV3.out.b (fun q => by cases q)
                  · rw [if_neg hdd] at hLD
                    rw [hLD, if_neg (by simp)] at HLs2
                    have HRw : Hid (Rs ((wr.setCell ⟨R, t * 2, none⟩ (.bool true)).setCell ⟨R, t * 2 + 1, none⟩ (.slice na nl nc)) R R J n (.slice oa3 s3.od.length oc3) ⟨s3.fk.set t F, s3.dp.set t (deepS s3 F), s3.jn, s3.cm.set t true, s3.od⟩) := HV3.out.rs.row HF3.out ht2 hLF HGd.out (by omega) hcm2 HIv.out HAp.out
                    have HEn : Hid (Fin ps n k (k + 1) (s3.enter t F (deepS s3 F)) ∧ Gro s3 (s3.enter t F (deepS s3 F))) := ⟨(HF3.out.enter ht2 hLF HGd.out (by omega) hcm2).1, (HF3.out.enter ht2 hLF HGd.out (by omega) hcm2).2.1⟩
                    have HNd : Hid ((s3.enter t F (deepS s3 F)).od.Nodup) := enter_nodup HF3.out HV3.out.nd hcm2
                    have HIn : Hid (inn (s3.enter t F (deepS s3 F)) F = inn s3 F) := inn_gro HF3.out HEn.out.2 HGd.out
                    have HKe : Hid (k < (s3.enter t F (deepS s3 F)).od.length) := Nat.lt_of_lt_of_le hkl HEn.out.2.len
                    have HGe : Hid (Good ps (s3.enter t F (deepS s3 F)) F) := good_gro HEn.out.2 HGd.out
                    have HLn : Hid (s3.od.length ≤ 1048576) := by show _ ≤ _; omega
                    rw [← hnl] at hdd
                    clear hLD r3 r4 hcm hcm2 hkl hnl
                    go_wp2_with (at_builtin; refine list_int2 (y := t) rfl (.tmp 132) (.tmp 134) rfl HRw.out.od HRw.out.hi rfl rfl (by simp [World.setCell]) HLn.out ?_; intro v5 w5 h5 hg5 ho5; obtain ⟨va, vc, rfl⟩ := h5.form1; have HB5 : Hid (_ ∧ _ ∧ _ ∧ _) := HRw.out.add h5 hg5 (by simpa [World.setCell] using ho5); clear h5 hg5 ho5)
                    go_roundw
                    case rel =>
                      have HBx : Below R wr w5 := (((Below.refl R wr).setCell (p := ⟨R, t * 2, none⟩) (Nat.le_refl _) _).setCell (p := ⟨R, t * 2 + 1, none⟩) (Nat.le_refl _) _).trans HB5.out.2.1
                      have hAp2 : Apart ((wr.setCell ⟨R, t * 2, none⟩ (.bool true)).setCell ⟨R, t * 2 + 1, none⟩ (.slice na nl nc)) R R J (.slice oa3 s3.od.length oc3) (.slice na nl nc) := HAp.out.size (by rw [size_set, size_set]; exact Nat.le_refl _)
                      have hIv2 : Iv ((wr.setCell ⟨R, t * 2, none⟩ (.bool true)).setCell ⟨R, t * 2 + 1, none⟩ (.slice na nl nc)) (.slice na nl nc) (inn s3 F) := (HIv.out.set _ fun q => (HAp.out _ q).2.2.1 rfl).set _ fun q => (HAp.out _ q).2.2.1 rfl
                      exact ⟨j + 1, by go_num, by omega, s3.enter t F (deepS s3 F), HV3.out.go hdR HBx HB5.out.1 HEn.out.1 HNd.out, HLs.out.trans HLs2.out, HGe.out, by rw [HIn.out]; exact HB5.out.2.2.2 _ _ hAp2 hIv2, HB5.out.2.2.1 _ hAp2, HKe.out⟩
                    case measure => simp [intOf]; omega
              · have hjj : j = outs.length := by omega
                have HE0 : Hid (leadsS F outs S2 = (0, s3)) := by
                  show _ = _
                  rw [HLs.out, hjj, List.drop_length]; rfl
                have HNx : Hid (goS ps (n + 1) 0 (beginS n) = goS ps (n + 1 - (k + 1)) (k + 1) s3) := by
                  show _ = _
                  rw [HGo.out, HSt.out, HSt2.out, HE0.out]; simp
                have HFk : Hid (Fin ps n (k + 1) (k + 1) s3) := by
                  have := HStep.out (by rw [HSt2.out, HE0.out])
                  rw [HSt2.out, HE0.out] at this
                  exact this
                clear hfl
                go_wp2_with fail
                go_roundw
                case rel => exact ⟨k + 1, by go_num, by omega, s3, hkl, HV3.out.fins HFk.out, HNx.out⟩
                case measure => simp [intOf]; omega
            )
      · obtain ⟨hE8, hor⟩ := hla.2 hE
        subst hE8
        have HFn : Hid (goS ps (n + 1) 0 (beginS n) = (8, S2)) := by
          show _ = _
          rw [HGo.out, HSt.out, HStp.out]; rfl
        rcases hor with hor | ⟨k5, j1, j2, j3, hor⟩
        · have HC2 : Hid (Calls Try.prog 38 #[.agg #[.string ds, .slice (some ⟨qb, qo, none⟩) n c], .int .i64 (p : Nat), .slice ra (chain s1 p).length rc] wr fun e w' => ∃ na nl nc, e = .returned (.tuple #[.slice na nl nc, .bool false]) ∧ Below wr.heap.size wr w') := HCa.out.mono fun e w' q => by
            obtain ⟨na, nl, nc, q1, _, _, _, q2⟩ := af_some (x := (afterL (kindP ps p) p (chain s1 p)).1) (b := false) (by rw [← hor]) q
            exact ⟨na, nl, nc, q1, q2⟩
          clear HCa hla hche HStp
          go_wp2_with (go_at_call 38; refine HC2.out.mono ?_; rintro e w2 ⟨na, nl, nc, rfl, q3⟩; have HV5 : Hid (Rv w w2 R J n ds (some ⟨qb, qo, none⟩) c ps k k (.slice (some ⟨og, 0, none⟩) s1.od.length oc) s1) := HV1.out.below q3; clear q3)
          try rw [Exit.noGoto_ret]
          refine bodyPost_ret (v := .tuple #[.slice (some ⟨R, 0, none⟩) n n, .slice (some ⟨J, 0, none⟩) n n, .int .i64 8]) (by simp [results, Try.results22, go_sem]) rfl ?_
          exact HEnd.out _ _ _ HFn.out HV5.out.b (fun q => by cases q)
        · have hfn : s1.fk.getD p 0 < n := getD_mem_or HF1.out.ok.fkl (by omega)
          have hll : (chain s1 p).length = (chain s1 (s1.fk.getD p 0)).length + 1 := by rw [hche]; unfold inn; rw [if_neg j1, List.length_append]; rfl
          have hgl : (chain s1 p).getD (chain s1 (s1.fk.getD p 0)).length 0 = s1.fk.getD p 0 := by
            rw [hche]; unfold inn; rw [if_neg j1]; simp [List.getD_eq_getElem?_getD]
          have HRc : Hid (∀ wx, Below wr.heap.size wr wx → ∃ rg, ra = some ⟨rg, 0, none⟩ ∧ wx.cell? ⟨rg, (chain s1 (s1.fk.getD p 0)).length, none⟩ = some (.int .i64 (s1.fk.getD p 0 : Nat))) := fun wx q => by
            obtain ⟨a2, c2, e, _, _, q3⟩ := HRd.out.below q
            injection e with e1 e2 e3
            subst e1
            rcases q3 with ⟨_, q4, _⟩ | ⟨rg, q4, q5⟩
            · rw [q4] at hll; cases hll
            · refine ⟨rg, q4, ?_⟩
              rw [q5 _ (by omega), hgl]
          have HRJ : Hid (∀ wx, Below wr.heap.size wr wx → wx.cell? ⟨J, s1.fk.getD p 0, none⟩ = some (.int .i64 (s1.jn.getD (s1.fk.getD p 0) 0 : Nat))) := fun wx q => (HV1.out.below q).rs.jn.c (s1.fk.getD p 0) (by rw [HF1.out.ok.jn]; exact hfn)
          have HC2 : Hid (Calls Try.prog 38 #[.agg #[.string ds, .slice (some ⟨qb, qo, none⟩) n c], .int .i64 (p : Nat), .slice ra (chain s1 p).length rc] wr fun e w' => ∃ na nl nc, e = .returned (.tuple #[.slice na nl nc, .bool true]) ∧ Below wr.heap.size wr w') := HCa.out.mono fun e w' q => by
            obtain ⟨na, nl, nc, q1, _, _, _, q2⟩ := af_some (x := (afterL (kindP ps p) p (chain s1 p)).1) (b := true) (by rw [← hor]) q
            exact ⟨na, nl, nc, q1, q2⟩
          rw [hll] at HC2 r2 hrc1 hchl
          obtain ⟨rg, rfl, _⟩ := HRc.out wr (Below.refl _ _)
          have HRc2 : Hid (∀ wx, Below wr.heap.size wr wx → wx.cell? ⟨rg, (chain s1 (s1.fk.getD p 0)).length, none⟩ = some (.int .i64 (s1.fk.getD p 0 : Nat))) := fun wx q => by
            obtain ⟨r5, e, q2⟩ := HRc.out wx q
            injection e with e; injection e with e1 _ _
            subst e1; exact q2
          clear HCa hla hche HStp hor hgl hll HRd HRc HRa
          generalize s1.fk.getD p 0 = f at *
          generalize (chain s1 f).length = cl at *
          have h1 : ¬ ((s1.jn.getD f 0 : Nat) : Int) = 0 := by omega
          have h2 : ¬ ((s1.jn.getD f 0 : Nat) : Int) = (p : Int) := by omega
          generalize s1.jn.getD f 0 = jj at *
          have h3 : ((jj : Int) == 0) = false := by rw [beq_eq_false_iff_ne]; exact h1
          have h4 : ((jj : Int) == (p : Int)) = false := by rw [beq_eq_false_iff_ne]; exact h2
          have h5 : ((jj : Int) != 0) = true := by rw [bne, h3]; rfl
          have h6 : ((jj : Int) != (p : Int)) = true := by rw [bne, h4]; rfl
          have h7 : decide ((jj : Int) = 0) = false := decide_eq_false h1
          have h8 : decide ((jj : Int) = (p : Int)) = false := decide_eq_false h2
          rw [k5] at HKd
          clear k5
          go_wp2_with (go_at_call 38; refine HC2.out.mono ?_; rintro e w2 ⟨na, nl, nc, rfl, q3⟩; have HV5 : Hid (Rv w w2 R J n ds (some ⟨qb, qo, none⟩) c ps k k (.slice (some ⟨og, 0, none⟩) s1.od.length oc) s1) := HV1.out.below q3; obtain ⟨y0, y1, yf⟩ := HV5.out.box; have ly := World.block_lt_of_cell? _ _ y0; have xk := HKd.out w2 HV5.out.b; have lxk := World.block_lt_of_cell? _ _ xk; have xc := HRc2.out w2 q3; have lxc := World.block_lt_of_cell? _ _ xc; have xj := HRJ.out w2 q3; have lxj := World.block_lt_of_cell? _ _ xj; clear q3)
          try rw [Exit.noGoto_ret]
          refine bodyPost_ret (v := .tuple #[.slice (some ⟨R, 0, none⟩) n n, .slice (some ⟨J, 0, none⟩) n n, .int .i64 8]) (by simp [results, Try.results22, go_sem]) rfl ?_
          exact HEnd.out _ _ _ HFn.out HV5.out.b (fun q => by cases q)
    · have HFn : Hid (goS ps (n + 1) 0 (beginS n) = (0, s1)) := by
        show _ = _
        rw [HGo.out, show n + 1 - k = (n - k) + 1 by omega, goS, if_neg hlt]
      obtain ⟨oa, oc, rfl⟩ := hv1.rs.od.form
      clear hv1
      go_wp2_with fail
      try rw [Exit.noGoto_ret]
      refine bodyPost_ret (v := .tuple #[.slice (some ⟨R, 0, none⟩) n n, .slice (some ⟨J, 0, none⟩) n n, .int .i64 0]) (by simp [results, Try.results22, go_sem]) rfl ?_
      exact HEnd.out _ _ _ HFn.out HV1.out.b (fun _ => ⟨_, HV1.out.rs⟩)
end Go.Proofs.Ytlaiacjlphjmlaa
