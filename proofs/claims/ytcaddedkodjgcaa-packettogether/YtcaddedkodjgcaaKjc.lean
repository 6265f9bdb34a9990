/-
  The program's unsummed: its contract.
-/
import Derived.Test.YtcaddedkodjgcaaKjg
import Derived.Test.YtcaddedkodjgcaaKja
namespace Go.Proofs.Ytcaddedkodjgcaa
section
open Go.RowKit Pack Crc
set_option linter.unusedVariables false
set_option linter.unusedSimpArgs false

/-- Bytes as a number, the lowest first. -/
def leV : BB → Nat
  | [] => 0
  | x :: l => x.toNat + 256 * leV l
theorem leV_four (s : BitVec 32) : (leV (fourB s) : Int) = W s := by
  have h0 := four0 s
  have h1 := four1 s
  have h2 := four2 s
  have h3 := four3 s
  unfold B at h0 h1 h2 h3
  unfold fourB
  simp only [leV]
  omega
theorem leV_inj : ∀ {l m : BB}, l.length = m.length → leV l = leV m → l = m
  | [], [], _, _ => rfl
  | [], _ :: _, h, _ => by simp at h
  | _ :: _, [], h, _ => by simp at h
  | x :: l, y :: m, h, e => by
    simp only [leV] at e
    have hx := x.isLt
    have hy := y.isLt
    have h1 : x.toNat = y.toNat := by omega
    have h2 : leV l = leV m := by omega
    rw [BitVec.eq_of_toNat_eq h1, leV_inj (by simpa using h) h2]
theorem leV_lt : ∀ (l : BB), leV l < 256 ^ l.length
  | [] => by decide
  | x :: l => by
    have := leV_lt l
    have hx := x.isLt
    simp only [leV, List.length_cons, Nat.pow_succ]
    omega
theorem leV_snoc : ∀ (l : BB) (x : BitVec 8), leV (l ++ [x]) = leV l + 256 ^ l.length * x.toNat
  | [], x => by simp [leV]
  | y :: l, x => by
    simp only [List.cons_append, leV, leV_snoc l x, List.length_cons, Nat.pow_succ]
    rw [Nat.mul_add, ← Nat.mul_assoc, Nat.mul_comm 256 (256 ^ l.length)]
    omega
theorem leV_step {d : BB} {k : Nat} {x : Int} (h : k < d.length) (h4 : k < 4) (hx : x = B (nth d k)) : bits .or .u32 (leV (d.take k) : Int) (IntKind.u32.wrap (x * 2 ^ (8 * k))) = (leV (d.take (k + 1)) : Int) := by
  have e : d.take (k + 1) = d.take k ++ [nth d k] := take_nth h
  rw [e, leV_snoc, List.length_take, Nat.min_eq_left (by omega)]
  have hl : leV (d.take k) < 256 ^ k := by have := leV_lt (d.take k); rwa [List.length_take, Nat.min_eq_left (by omega)] at this
  have hp : (256 : Nat) ^ k = 2 ^ (8 * k) := by rw [Nat.pow_mul]
  unfold B at hx
  obtain ⟨y, hy⟩ : ∃ y, y = (nth d k).toNat := ⟨_, rfl⟩
  have hy2 := (nth d k).isLt
  rw [← hy] at hx hy2 ⊢
  have hb : 2 ^ (8 * k) * y < 4294967296 := by
    rw [← hp]
    rcases k with _ | _ | _ | _ | k <;> first | (simp only [Nat.zero_add, Nat.pow_zero, Nat.pow_one, Nat.reduceAdd, Nat.reducePow]; omega) | omega
  have hw : IntKind.u32.wrap (x * 2 ^ (8 * k)) = ((2 ^ (8 * k) * y : Nat) : Int) := by
    have e : x * 2 ^ (8 * k) = ((2 ^ (8 * k) * y : Nat) : Int) := by rw [hx]; push_cast; exact Int.mul_comm _ _
    rw [e, IntKind.wrap_u32]; omega
  have hl2 : leV (d.take k) < 4294967296 := by
    have : (256 : Nat) ^ k ≤ 4294967296 := by rcases k with _ | _ | _ | _ | k <;> first | decide | omega
    omega
  rw [hw, u32_or_nat _ _ hl2 hb, hp, Nat.add_comm, Nat.two_pow_add_eq_or_of_lt (by omega), Nat.or_comm]
theorem seal_iff {b : BB} (h : 4 ≤ b.length) : sealB (b.take (b.length - 4)) = b ↔ leV (b.drop (b.length - 4)) = (W (Crc.sum (b.take (b.length - 4)))).toNat := by
  have e : b = b.take (b.length - 4) ++ b.drop (b.length - 4) := (List.take_append_drop _ _).symm
  have hlen : (b.drop (b.length - 4)).length = (fourB (Crc.sum (b.take (b.length - 4)))).length := by rw [List.length_drop, fourB_len]; omega
  have h4 := leV_four (Crc.sum (b.take (b.length - 4)))
  constructor
  · intro q
    unfold sealB at q
    have q2 : fourB (Crc.sum (b.take (b.length - 4))) = b.drop (b.length - 4) := List.append_cancel_left (q.trans e)
    rw [← q2]
    omega
  · intro q
    have q2 : b.drop (b.length - 4) = fourB (Crc.sum (b.take (b.length - 4))) := leV_inj hlen (by omega)
    unfold sealB
    rw [← q2, List.take_append_drop]
set_option maxRecDepth 100000 in
set_option maxHeartbeats 800000 in
theorem unsummed_short {w : World} {v : Value} {b : BB} (h : ReadsV w v b) (hb : b.length < 4) : Calls Try.prog 33 #[v] w fun e w' => e = .returned (.tuple #[.slice none 0 0, .int .i64 5]) ∧ w' = w := by
  obtain ⟨a, c, rfl, _, hc, _⟩ := h
  generalize b.length = n at *
  go_enter Try.func33, Try.ntmps33
  go_wp2
  go_ret2
  exact ⟨rfl, rfl⟩
set_option maxRecDepth 100000 in
set_option maxHeartbeats 800000 in
theorem unsummed_any {w : World} {v : Value} {b : BB} (h : ReadsV w v b) (hb : ¬ b.length < 4) (hl : b.length ≤ 1000000) : Calls Try.prog 33 #[v] w fun e w' => (if sealB (b.take (b.length - 4)) = b then ∃ a n c, e = .returned (.tuple #[.slice a n c, .int .i64 0]) ∧ Lo w w.heap.size (.slice a n c) (b.take (b.length - 4)) else e = .returned (.tuple #[.slice none 0 0, .int .i64 4])) ∧ w' = w := by
  have hR0 := h
  obtain ⟨a, c, rfl, hnil, hc, hcm, hrd⟩ := h
  have hcm2 : c ≤ 9223372036854775807 := hcm
  have hs := seal_iff (b := b) (by omega)
  obtain ⟨m, hm⟩ : ∃ m, b.length - 4 = m := ⟨_, rfl⟩
  have hmn : b.length = m + 4 := by omega
  rw [hm] at hs ⊢
  have hRt : ReadsV w (.slice a m c) (b.take m) := reads_take hR0 (by omega)
  have HS : Hid (∀ wr, wr = w → Calls Try.prog 43 #[.slice a m c] wr fun e w' => e = .returned (.int .u32 (W (Crc.sum (b.take m)))) ∧ w' = wr) := fun wr q => by subst q; exact sum_row _ _ _ hRt
  have HC : ∃ g o, a = some ⟨g, o, none⟩ ∧ ∀ k, k < 4 → w.cell? ⟨g, o + m + k, none⟩ = some (.int .u8 (B (nth (b.drop m) k))) := by
    rcases hrd.2 with h0 | ⟨g, o, e, hcell⟩
    · rw [h0] at hmn; simp at hmn
    · refine ⟨g, o, e, fun k hk => ?_⟩
      have := hcell (m + k) (by omega)
      rw [show o + (m + k) = o + m + k by omega] at this
      rw [this]
      unfold nth
      rw [List.getD_eq_getElem?_getD, List.getD_eq_getElem?_getD, List.getElem?_drop]
  obtain ⟨g, o, rfl, HC⟩ := HC
  have HC : Hid (∀ k, k < 4 → w.cell? ⟨g, o + m + k, none⟩ = some (.int .u8 (B (nth (b.drop m) k)))) := HC
  have hdl : (b.drop m).length = 4 := by rw [List.length_drop]; omega
  have HRt : Hid (Lo w w.heap.size (.slice (some ⟨g, o, none⟩) m c) (b.take m)) := ⟨hRt, fun x m2 d e => by
    cases e
    have hlt := World.block_lt_of_cell? _ _ (HC.out 0 (by omega))
    exact hlt⟩
  have hW := W_range (Crc.sum (b.take m))
  have hd4 : (b.drop m).take 4 = b.drop m := List.take_of_length_le (by omega)
  rw [hmn] at hc ⊢
  generalize W (Crc.sum (b.take m)) = u at *
  generalize b.take m = bt at *
  generalize b.drop m = d at *
  have hw : IntKind.i64.wrap (((m + 4 : Nat) : Int) - 4) = (m : Int) := by rw [IntKind.wrap_i64]; omega
  clear hnil hcm hrd hR0 hRt hm hmn hl hb
  obtain ⟨n, hn⟩ : ∃ n, m + 4 = n := ⟨_, rfl⟩
  rw [hn] at hc hw ⊢
  go_enter Try.func33, Try.ntmps33
  go_wp2
  have hnm : n - m = 4 := by omega
  simp only [hnm]
  go_loopw [5, 21] (fun x y wr => ∃ (k : Nat), k ≤ 4 ∧ y = .int .i64 k ∧ x = .int .u32 (leV (d.take k)) ∧ Hid (wr = w)) (fun _ y _ => 4 - (intOf y).toNat)
  case atStart => exact ⟨0, Nat.zero_le _, rfl, rfl, rfl⟩
  case round =>
    obtain ⟨k, hk, rfl, rfl, HW⟩ := hrel
    by_cases hlt : k < 4
    · have hcell := HC.out k hlt
      rw [← HW.out] at hcell
      obtain ⟨y, hy⟩ : ∃ y, y = B (nth d k) := ⟨_, rfl⟩
      have HV : Hid (bits .or .u32 (leV (d.take k) : Int) (y * 2 ^ (8 * k) % 4294967296) = (leV (d.take (k + 1)) : Int)) := by have := leV_step (by omega) hlt hy; rw [IntKind.wrap_u32] at this; exact this
      obtain ⟨hx0, hx1⟩ := B_range (nth d k)
      rw [← hy] at hcell hx0 hx1
      clear hy HC HRt HS hs hd4 hW
      generalize leV (d.take k) = pv at *
      go_wp2
      go_roundw
      case rel => exact ⟨k + 1, by omega, by go_num, by rw [HV.out], HW⟩
      case measure => simp [intOf]; omega
    · obtain rfl : k = 4 := by omega
      rw [hd4]
      clear HC hd4
      by_cases q : sealB bt = b
      · have h1 := hs.1 q
        have y1 : ((leV d : Int) != u) = false := by rw [bne, beq_iff_eq.2 (show (leV d : Int) = u by omega)]; rfl
        have HQq : Hid (sealB bt = b) := q
        have HF : Hid (Lo w w.heap.size (.slice (some ⟨g, o, none⟩) m c) bt) := HRt.out
        clear hs q h1 HRt
        generalize leV d = pv at *
        go_wp2_with (go_at_call 43; refine (HS.out _ HW.out).mono ?_; rintro e w1 ⟨rfl, q⟩; obtain rfl := q.symm)
        go_ret2
        exact ⟨⟨_, _, _, rfl, HF.out⟩, HW.out⟩
      · have h1 : ¬ (leV d : Int) = u := fun e => q (hs.2 (by omega))
        have y1 : ((leV d : Int) != u) = true := by rw [bne, beq_eq_false_iff_ne.2 h1]; rfl
        have HQq : Hid (¬ sealB bt = b) := q
        clear hs q h1 HRt
        generalize leV d = pv at *
        go_wp2_with (go_at_call 43; refine (HS.out _ HW.out).mono ?_; rintro e w1 ⟨rfl, q⟩; obtain rfl := q.symm)
        go_ret2
        exact ⟨rfl, HW.out⟩
end
section
open Go.RowKit Pack
set_option linter.unusedVariables false
set_option linter.unusedSimpArgs false

/-- What is told of what was read, ahead of Check. -/
def endA (p : Pk) (s : St) : Pk × Int := if s.2 = 0 then (if s.1 = [] then (p, 0) else (zPk, 3)) else (zPk, s.2)
theorem endS_endA (p : Pk) (s : St) : endS p s = if (endA p s).2 = 0 then (if pchk (endA p s).1.1 (endA p s).1.2.1 (endA p s).1.2.2 = 0 then ((endA p s).1, 0) else (zPk, pchk (endA p s).1.1 (endA p s).1.2.1 (endA p s).1.2.2)) else (zPk, (endA p s).2) := by
  unfold endS endA
  by_cases h : s.2 = 0
  · rw [if_pos h, if_pos h]
    by_cases h2 : s.1 = []
    · rw [if_pos h2, if_pos h2]
      simp only [if_pos]
    · rw [if_neg h2, if_neg h2]
      rfl
  · rw [if_neg h, if_neg h]
    simp only [if_neg h]
/-- What readAll answers. -/
def PaP (p : Pk × Int) (w : World) (e : Ending) (w' : World) : Prop := ∃ a c, e = .returned (.tuple #[.agg #[.int .i64 p.1.1, .int .i64 p.1.2.1, .slice a p.1.2.2.length c], .int .i64 p.2]) ∧ RwV msR w' (fun g => w.heap.size ≤ g) a c p.1.2.2 ∧ Below w.heap.size w w'
theorem PaP.nil {w w' : World} (er : Int) (h : Below w.heap.size w w') : PaP (zPk, er) w (.returned (.tuple #[.agg #[.int .i64 0, .int .i64 0, .slice none 0 0], .int .i64 er])) w' := ⟨Option.none, 0, rfl, RwV.nil _ _ _, h⟩
theorem resAll {w : World} {Q : Nat} {v0 v1 v2 : Value} (tmps : Array Value) (h : Cell3 w Q v0 v1 v2) (h4 : tmps.getD 2 undef = .pointer (some ⟨Q, 0, none⟩)) : (results Try.f34 tmps).run Try.prog w = .ok (.tuple #[.agg #[v0, v1, v2], tmps.getD 3 undef]) w := by
  have h4' : tmps[2]?.getD undef = .pointer (some ⟨Q, 0, none⟩) := by simpa using h4
  simp [results, Try.results34, h4', loadPk h, asAddr]
theorem resRd {w : World} {Q : Nat} {v0 v1 v2 : Value} (tmps : Array Value) (h : Cell3 w Q v0 v1 v2) (h4 : tmps.getD 2 undef = .pointer (some ⟨Q, 0, none⟩)) : (results Try.f16 tmps).run Try.prog w = .ok (.tuple #[.agg #[v0, v1, v2], tmps.getD 3 undef]) w := by
  have h4' : tmps[2]?.getD undef = .pointer (some ⟨Q, 0, none⟩) := by simpa using h4
  simp [results, Try.results16, h4', loadPk h, asAddr]
theorem alloc_box {w w1 : World} {B Q : Nat} {u0 u1 u2 : Value} (h : Cell3 w1 Q u0 u1 u2 ∧ Below B w w1) (o : Obj) (hB : B ≤ w.heap.size) : Cell3 (w1.alloc o) Q u0 u1 u2 ∧ Below B w (w1.alloc o) := ⟨h.1.kept (((Below.refl w1.heap.size w1).alloc (Nat.le_refl _) o).block _ h.1.lt), h.2.alloc (Nat.le_trans hB h.2.size) o⟩
set_option maxRecDepth 100000 in
set_option maxHeartbeats 2000000 in
theorem readAll_any {w : World} {v : Value} {b : BB} (h : Lo w w.heap.size v b) (hl : b.length ≤ 100000000) : Calls Try.prog 34 #[v] w (PaP (endA (bodyT (b, 0)).1 (bodyT (b, 0)).2) w) := by
  obtain ⟨a, c, hv, _⟩ := id h.r
  obtain ⟨n, hn⟩ : ∃ n, b.length = n := ⟨_, rfl⟩
  rw [hn] at hv
  subst hv
  have hsz : ((w.alloc (Obj.cells #[.int .i64 0, .int .i64 0, .slice none 0 0] 24)).alloc (Obj.cells #[.slice a n c, .int .i64 0] 76)).heap.size = w.heap.size + 1 + 1 := by rw [size_alloc, size_alloc]
  have hb2 : Below w.heap.size w ((w.alloc (Obj.cells #[.int .i64 0, .int .i64 0, .slice none 0 0] 24)).alloc (Obj.cells #[.slice a n c, .int .i64 0] 76)) := ((Below.refl _ _).alloc (Nat.le_refl _) _).alloc (le_alloc _ _) _
  have hR2 : Cell2 ((w.alloc (Obj.cells #[.int .i64 0, .int .i64 0, .slice none 0 0] 24)).alloc (Obj.cells #[.slice a n c, .int .i64 0] 76)) (w.heap.size + 1) (.slice a n c) (.int .i64 0) := by
    have := Cell2.new (w.alloc (Obj.cells #[.int .i64 0, .int .i64 0, .slice none 0 0] 24)) (.slice a n c) (.int .i64 0) 76
    rw [size_alloc] at this
    exact this
  have hRv : Rv w ((w.alloc (Obj.cells #[.int .i64 0, .int .i64 0, .slice none 0 0] 24)).alloc (Obj.cells #[.slice a n c, .int .i64 0] 76)) (w.heap.size + 1) (b, 0) := ⟨hb2, Nat.le_succ _, .slice a n c, hR2, ⟨a, n, c, rfl⟩, fun _ => h.kept fun g hg => hb2.block g hg⟩
  have hZ0 : Cell3 ((w.alloc (Obj.cells #[.int .i64 0, .int .i64 0, .slice none 0 0] 24)).alloc (Obj.cells #[.slice a n c, .int .i64 0] 76)) w.heap.size (.int .i64 0) (.int .i64 0) (.slice none 0 0) := (Cell3.new w _ _ _ _).kept (((Below.refl (w.alloc (Obj.cells #[.int .i64 0, .int .i64 0, .slice none 0 0] 24)).heap.size (w.alloc (Obj.cells #[.int .i64 0, .int .i64 0, .slice none 0 0] 24))).alloc (Nat.le_refl _) _).block _ (by rw [size_alloc]; omega))
  obtain ⟨p, hp⟩ : ∃ p, (bodyT (b, 0)).1 = p := ⟨_, rfl⟩
  obtain ⟨s, hs⟩ : ∃ s, (bodyT (b, 0)).2 = s := ⟨_, rfl⟩
  have HP : Hid (Calls Try.prog 48 #[.pointer (some ⟨w.heap.size + 1, 0, none⟩)] ((w.alloc (Obj.cells #[.int .i64 0, .int .i64 0, .slice none 0 0] 24)).alloc (Obj.cells #[.slice a n c, .int .i64 0] 76)) fun e w' => ∃ a c, e = .returned (.agg #[.int .i64 p.1, .int .i64 p.2.1, .slice a p.2.2.length c]) ∧ Hid (RwV msR w' (fun g => w.heap.size + 1 + 1 ≤ g) a c p.2.2 ∧ Rv w w' (w.heap.size + 1) s ∧ Below w.heap.size w w') ∧ Cell3 w' w.heap.size (.int .i64 0) (.int .i64 0) (.slice none 0 0)) := by
    have := packet_next hRv hl
    rw [hp, hs] at this
    refine this.mono fun e w' ⟨a, c, z1, z2, z3, z4⟩ => ⟨a, c, z1, ⟨z2.sub fun g hg _ => by rw [hsz] at hg; exact hg, z3, hb2.trans (z4.b.mono (by omega))⟩, hZ0.kept (z4.k _ hZ0.lt (by omega))⟩
  rw [hp, hs]
  clear h hR2 hRv hZ0 hp hs hsz hb2 hn hl
  by_cases hs : s.2 = 0
  · have HS0 : Hid (s.2 = 0) := hs
    by_cases h1 : s.1 = []
    · have hend : endA p s = (p, 0) := by unfold endA; rw [if_pos hs, if_pos h1]
      rw [hend]
      have HL0 : Hid (s.1.length = 0) := by show _ = _; rw [h1]; rfl
      clear hs h1 hend
      go_enter Try.func34, Try.ntmps34
      go_wp2_with (go_at_call 48; refine HP.out.mono ?_; rintro e w5 ⟨ma, mc, rfl, HQ, hZ⟩; have HZ : Hid (Cell3 w5 w.heap.size (.int .i64 0) (.int .i64 0) (.slice none 0 0)) := hZ; clear hZ; obtain ⟨u, hK2, _, hlo⟩ := HQ.out.2.1.c; obtain ⟨ra, rc, hu, _⟩ := id (hlo HS0.out).r; subst hu; rw [HL0.out, HS0.out] at hK2; have hKl : w.heap.size + 1 < w5.heap.size := hK2.lt; obtain ⟨k0, k1, kf⟩ := hK2; have hne1 : w.heap.size + 1 ≠ w5.heap.size := (by omega); have hne2 : w.heap.size ≠ w5.heap.size := (by omega); have hlz : w.heap.size < w5.heap.size := (by omega); obtain ⟨z0, z1, z2, zf⟩ := id HZ.out; clear hlo)
      have HX := alloc_box (box_put HZ.out HQ.out.2.2 (.int .i64 p.1) (.int .i64 p.2.1) (.slice ma p.2.2.length mc)) (Obj.cells #[.int .i64 p.1, .int .i64 p.2.1, .slice ma p.2.2.length mc] 24) (Nat.le_refl _)
      have HRf := (HQ.out.1.kept (w' := ((w5.setCell ⟨w.heap.size, 0, none⟩ (.int .i64 p.1)).setCell ⟨w.heap.size, 1, none⟩ (.int .i64 p.2.1)).setCell ⟨w.heap.size, 2, none⟩ (.slice ma p.2.2.length mc)) (Q := fun g => w.heap.size ≤ g) (fun g hg _ => ⟨three_other (o := 0) (show g ≠ w.heap.size by omega), by omega⟩)).below ((Below.refl _ _).alloc (Nat.le_refl _) (Obj.cells #[.int .i64 p.1, .int .i64 p.2.1, .slice ma p.2.2.length mc] 24))
      exact bodyPost_ret (resAll _ HX.1 rfl) rfl ⟨ma, mc, rfl, HRf, HX.2⟩
    · have hend : endA p s = (zPk, 3) := by unfold endA; rw [if_pos hs, if_neg h1]
      rw [hend]
      have hpos : 0 < s.1.length := List.length_pos_iff.2 h1
      clear hs h1 hend
      have y4 : decide ((0 : Int) < (s.1.length : Int)) = true := decide_eq_true (by omega)
      go_enter Try.func34, Try.ntmps34
      go_wp2_with (go_at_call 48; refine HP.out.mono ?_; rintro e w5 ⟨ma, mc, rfl, HQ, hZ⟩; have HZ : Hid (Cell3 w5 w.heap.size (.int .i64 0) (.int .i64 0) (.slice none 0 0)) := hZ; clear hZ; obtain ⟨u, hK2, _, hlo⟩ := HQ.out.2.1.c; obtain ⟨ra, rc, hu, _⟩ := id (hlo HS0.out).r; subst hu; rw [HS0.out] at hK2; have hKl : w.heap.size + 1 < w5.heap.size := hK2.lt; obtain ⟨k0, k1, kf⟩ := hK2; have hne1 : w.heap.size + 1 ≠ w5.heap.size := (by omega); have hne2 : w.heap.size ≠ w5.heap.size := (by omega); have hlz : w.heap.size < w5.heap.size := (by omega); obtain ⟨z0, z1, z2, zf⟩ := id HZ.out; clear hlo)
      have HX := alloc_box (box_put HZ.out HQ.out.2.2 (.int .i64 0) (.int .i64 0) (.slice none 0 0)) (Obj.cells #[.int .i64 p.1, .int .i64 p.2.1, .slice ma p.2.2.length mc] 24) (Nat.le_refl _)
      exact bodyPost_ret (resAll _ HX.1 rfl) rfl (PaP.nil 3 HX.2)
  · have hend : endA p s = (zPk, s.2) := by unfold endA; rw [if_neg hs]
    rw [hend]
    obtain ⟨er, her⟩ : ∃ er, s.2 = er := ⟨_, rfl⟩
    have HEr : Hid (s.2 = er) := her
    rw [her] at hs ⊢
    have y3 : (er == 0) = false := beq_eq_false_iff_ne.2 hs
    have y4 : (er != 0) = true := by rw [bne, y3]; rfl
    clear hs hend her
    go_enter Try.func34, Try.ntmps34
    go_wp2_with (go_at_call 48; refine HP.out.mono ?_; rintro e w5 ⟨ma, mc, rfl, HQ, hZ⟩; have HZ : Hid (Cell3 w5 w.heap.size (.int .i64 0) (.int .i64 0) (.slice none 0 0)) := hZ; clear hZ; obtain ⟨u, hK2, _, hlo⟩ := HQ.out.2.1.c; rw [HEr.out] at hK2; have hKl : w.heap.size + 1 < w5.heap.size := hK2.lt; obtain ⟨k0, k1, kf⟩ := hK2; have hne1 : w.heap.size + 1 ≠ w5.heap.size := (by omega); have hne2 : w.heap.size ≠ w5.heap.size := (by omega); have hlz : w.heap.size < w5.heap.size := (by omega); obtain ⟨z0, z1, z2, zf⟩ := id HZ.out; clear hlo)
    go_region_held3 (fun w' => w'.cell? ⟨w.heap.size + 1, 1, none⟩ = some (.int .i64 er)) (go_keep) (fail)
    all_goals (
      go_wp2
      have HX := alloc_box (box_put HZ.out HQ.out.2.2 (.int .i64 0) (.int .i64 0) (.slice none 0 0)) (Obj.cells #[.int .i64 p.1, .int .i64 p.2.1, .slice ma p.2.2.length mc] 24) (Nat.le_refl _)
      first
        | exact bodyPost_ret (resAll _ HX.1 rfl) rfl (PaP.nil er HX.2)
        | exact bodyPost_ret (resAll _ (HX.1.kept rfl) rfl) rfl (PaP.nil er HX.2.drew))
end
section
open Go.RowKit Pack
set_option linter.unusedVariables false
set_option linter.unusedSimpArgs false

theorem readP_err {w w' : World} {v : Value} (er : Int) (h : Below w.heap.size w w') : ReadP (zPk, er) v w (.returned (.tuple #[.agg #[.int .i64 0, .int .i64 0, .slice none 0 0], .int .i64 er])) w' := ⟨none, 0, rfl, RwV.nil _ _ _, h⟩
set_option maxRecDepth 100000 in
set_option maxHeartbeats 800000 in
theorem Read_err {w : World} {v : Value} {er : Int} (her : er ≠ 0) (hu : Calls Try.prog 33 #[v] (w.alloc (Obj.cells #[.int .i64 0, .int .i64 0, .slice none 0 0] 24)) fun e w' => e = .returned (.tuple #[.slice none 0 0, .int .i64 er]) ∧ w' = (w.alloc (Obj.cells #[.int .i64 0, .int .i64 0, .slice none 0 0] 24))) : Calls Try.prog 16 #[v] w (ReadP (zPk, er) v w) := by
  have HU : Hid (Calls Try.prog 33 #[v] (w.alloc (Obj.cells #[.int .i64 0, .int .i64 0, .slice none 0 0] 24)) fun e w' => e = .returned (.tuple #[.slice none 0 0, .int .i64 er]) ∧ w' = (w.alloc (Obj.cells #[.int .i64 0, .int .i64 0, .slice none 0 0] 24))) := hu
  have HZ := zero_box w
  have HC : Hid (Cell3 (w.alloc (Obj.cells #[.int .i64 0, .int .i64 0, .slice none 0 0] 24)) w.heap.size (.int .i64 0) (.int .i64 0) (.slice none 0 0)) := HZ.1
  have HB : Hid (Below w.heap.size w (w.alloc (Obj.cells #[.int .i64 0, .int .i64 0, .slice none 0 0] 24))) := HZ.2
  obtain ⟨z0, z1, z2, zf⟩ := HZ.1
  have y3 : (er == 0) = false := beq_eq_false_iff_ne.2 her
  have y4 : (er != 0) = true := by rw [bne, y3]; rfl
  clear hu her
  go_enter Try.func16, Try.ntmps16
  go_wp2_with (go_at_call 33; refine HU.out.mono ?_; rintro e w1 ⟨rfl, rfl⟩)
  have HX := box_put HC.out HB.out (.int .i64 0) (.int .i64 0) (.slice none 0 0)
  first
    | exact bodyPost_ret (resRd _ HX.1 rfl) rfl (readP_err er HX.2)
    | exact bodyPost_ret (resRd _ HC.out rfl) rfl (readP_err er HB.out)
set_option maxRecDepth 100000 in
set_option maxHeartbeats 2000000 in
theorem Read_ok {w : World} {v : Value} {bt : BB} {p : Pk} {er : Int} (hu : Calls Try.prog 33 #[v] (w.alloc (Obj.cells #[.int .i64 0, .int .i64 0, .slice none 0 0] 24)) fun e w' => ∃ a n c, e = .returned (.tuple #[.slice a n c, .int .i64 0]) ∧ Hid (Lo (w.alloc (Obj.cells #[.int .i64 0, .int .i64 0, .slice none 0 0] 24)) (w.alloc (Obj.cells #[.int .i64 0, .int .i64 0, .slice none 0 0] 24)).heap.size (.slice a n c) bt) ∧ w' = (w.alloc (Obj.cells #[.int .i64 0, .int .i64 0, .slice none 0 0] 24))) (hl : bt.length ≤ 100000000) (hp : endA (bodyT (bt, 0)).1 (bodyT (bt, 0)).2 = (p, er)) : Calls Try.prog 16 #[v] w (ReadP (if er = 0 then (if pchk p.1 p.2.1 p.2.2 = 0 then (p, 0) else (zPk, pchk p.1 p.2.1 p.2.2)) else (zPk, er)) v w) := by
  have HU : Hid (Calls Try.prog 33 #[v] (w.alloc (Obj.cells #[.int .i64 0, .int .i64 0, .slice none 0 0] 24)) fun e w' => ∃ a n c, e = .returned (.tuple #[.slice a n c, .int .i64 0]) ∧ Hid (Lo (w.alloc (Obj.cells #[.int .i64 0, .int .i64 0, .slice none 0 0] 24)) (w.alloc (Obj.cells #[.int .i64 0, .int .i64 0, .slice none 0 0] 24)).heap.size (.slice a n c) bt) ∧ w' = (w.alloc (Obj.cells #[.int .i64 0, .int .i64 0, .slice none 0 0] 24))) := hu
  have HZ := zero_box w
  have hsz : (w.alloc (Obj.cells #[.int .i64 0, .int .i64 0, .slice none 0 0] 24)).heap.size = w.heap.size + 1 := size_alloc _ _
  have HA : Hid (∀ a n c, Lo (w.alloc (Obj.cells #[.int .i64 0, .int .i64 0, .slice none 0 0] 24)) (w.alloc (Obj.cells #[.int .i64 0, .int .i64 0, .slice none 0 0] 24)).heap.size (.slice a n c) bt → Calls Try.prog 34 #[.slice a n c] (w.alloc (Obj.cells #[.int .i64 0, .int .i64 0, .slice none 0 0] 24)) fun e w' => ∃ ma mc, e = .returned (.tuple #[.agg #[.int .i64 p.1, .int .i64 p.2.1, .slice ma p.2.2.length mc], .int .i64 er]) ∧ Hid (RwV msR w' (fun g => w.heap.size + 1 ≤ g) ma mc p.2.2 ∧ Below w.heap.size w w' ∧ w.heap.size + 1 ≤ w'.heap.size) ∧ Cell3 w' w.heap.size (.int .i64 0) (.int .i64 0) (.slice none 0 0)) := fun a n c q => by
    have := readAll_any q hl
    rw [hp] at this
    refine this.mono fun e w' ⟨ma, mc, z1, z2, z3⟩ => ⟨ma, mc, z1, ⟨by rw [hsz] at z2; exact z2, HZ.2.trans (z3.mono (by omega)), by have := z3.size; omega⟩, HZ.1.kept (z3.block _ (by omega))⟩
  have HCk : Hid (∀ (wr : World) (ma : Option Addr) (mc : Nat) (P : Nat → Prop), RwV msR wr P ma mc p.2.2 → Calls Try.prog 14 #[.agg #[.int .i64 p.1, .int .i64 p.2.1, .slice ma p.2.2.length mc]] wr fun e w' => e = .returned (.int .i64 (pchk p.1 p.2.1 p.2.2)) ∧ Below wr.heap.size wr w') := fun wr ma mc P q => Check_any q
  obtain ⟨z0, z1, z2, zf⟩ := HZ.1
  clear hu hp hl HZ hsz
  by_cases her : er = 0
  · subst her
    rw [if_pos rfl]
    by_cases hck : pchk p.1 p.2.1 p.2.2 = 0
    · rw [if_pos hck]
      rw [hck] at HCk
      clear hck
      go_enter Try.func16, Try.ntmps16
      go_wp2_with (first
        | (go_at_call 33; refine HU.out.mono ?_; rintro e w1 ⟨a1, n1, c1, rfl, HLo, rfl⟩)
        | (go_at_call 34; refine (HA.out _ _ _ HLo.out).mono ?_; rintro e w5 ⟨ma, mc, rfl, HQ, hZ⟩; have HZ : Hid (Cell3 w5 w.heap.size (.int .i64 0) (.int .i64 0) (.slice none 0 0)) := hZ; clear hZ; have hlz : w.heap.size < w5.heap.size := HZ.out.lt; have hne2 : w.heap.size ≠ w5.heap.size := (by omega); obtain ⟨k0, k1, k2, kf⟩ := id HZ.out)
        | (go_at_call 14; refine (HCk.out _ _ _ _ (HQ.out.1.below ((Below.refl _ _).alloc (Nat.le_refl _) _))).mono ?_; rintro e w7 ⟨rfl, qB⟩; have HB7 : Hid (Below w5.heap.size w5 w7) := ((Below.refl _ _).alloc (Nat.le_refl _) _).trans (qB.mono (le_alloc _ _)); have hP7 : Cell3 w7 w5.heap.size (.int .i64 p.1) (.int .i64 p.2.1) (.slice ma p.2.2.length mc) := (Cell3.new w5 _ _ _ _).kept (qB.block _ (by rw [size_alloc]; exact Nat.lt_succ_self _)); clear qB; have HZ7 : Hid (Cell3 w7 w.heap.size (.int .i64 0) (.int .i64 0) (.slice none 0 0)) := HZ.out.kept (HB7.out.block _ hlz); obtain ⟨e0, e1, e2, ef⟩ := hP7; obtain ⟨x0, x1, x2, xf⟩ := id HZ7.out))
      have HX := box_put HZ7.out (HQ.out.2.1.trans (HB7.out.mono (Nat.le_of_lt hlz))) (.int .i64 p.1) (.int .i64 p.2.1) (.slice ma p.2.2.length mc)
      have HRf := (HQ.out.1.below HB7.out).kept (w' := ((w7.setCell ⟨w.heap.size, 0, none⟩ (.int .i64 p.1)).setCell ⟨w.heap.size, 1, none⟩ (.int .i64 p.2.1)).setCell ⟨w.heap.size, 2, none⟩ (.slice ma p.2.2.length mc)) (Q := fun g => (g < w.heap.size ∧ SB v g) ∨ w.heap.size ≤ g) (fun g hg _ => ⟨three_other (o := 0) (show g ≠ w.heap.size by omega), .inr (by omega)⟩)
      exact bodyPost_ret (resRd _ HX.1 rfl) rfl ⟨ma, mc, rfl, HRf, HX.2⟩
    · rw [if_neg hck]
      obtain ⟨cd, hcd⟩ : ∃ cd, pchk p.1 p.2.1 p.2.2 = cd := ⟨_, rfl⟩
      rw [hcd] at HCk hck ⊢
      have y3 : (cd == 0) = false := beq_eq_false_iff_ne.2 hck
      have y4 : (cd != 0) = true := by rw [bne, y3]; rfl
      clear hck hcd
      go_enter Try.func16, Try.ntmps16
      go_wp2_with (first
        | (go_at_call 33; refine HU.out.mono ?_; rintro e w1 ⟨a1, n1, c1, rfl, HLo, rfl⟩)
        | (go_at_call 34; refine (HA.out _ _ _ HLo.out).mono ?_; rintro e w5 ⟨ma, mc, rfl, HQ, hZ⟩; have HZ : Hid (Cell3 w5 w.heap.size (.int .i64 0) (.int .i64 0) (.slice none 0 0)) := hZ; clear hZ; have hlz : w.heap.size < w5.heap.size := HZ.out.lt; have hne2 : w.heap.size ≠ w5.heap.size := (by omega); obtain ⟨k0, k1, k2, kf⟩ := id HZ.out)
        | (go_at_call 14; refine (HCk.out _ _ _ _ (HQ.out.1.below ((Below.refl _ _).alloc (Nat.le_refl _) _))).mono ?_; rintro e w7 ⟨rfl, qB⟩; have HB7 : Hid (Below w5.heap.size w5 w7) := ((Below.refl _ _).alloc (Nat.le_refl _) _).trans (qB.mono (le_alloc _ _)); clear qB; have HZ7 : Hid (Cell3 w7 w.heap.size (.int .i64 0) (.int .i64 0) (.slice none 0 0)) := HZ.out.kept (HB7.out.block _ hlz); obtain ⟨x0, x1, x2, xf⟩ := id HZ7.out))
      have HX := box_put HZ7.out (HQ.out.2.1.trans (HB7.out.mono (Nat.le_of_lt hlz))) (.int .i64 0) (.int .i64 0) (.slice none 0 0)
      exact bodyPost_ret (resRd _ HX.1 rfl) rfl (readP_err cd HX.2)
  · rw [if_neg her]
    have y3 : (er == 0) = false := beq_eq_false_iff_ne.2 her
    have y4 : (er != 0) = true := by rw [bne, y3]; rfl
    clear her HCk
    go_enter Try.func16, Try.ntmps16
    go_wp2_with (first
      | (go_at_call 33; refine HU.out.mono ?_; rintro e w1 ⟨a1, n1, c1, rfl, HLo, rfl⟩)
      | (go_at_call 34; refine (HA.out _ _ _ HLo.out).mono ?_; rintro e w5 ⟨ma, mc, rfl, HQ, hZ⟩; have HZ : Hid (Cell3 w5 w.heap.size (.int .i64 0) (.int .i64 0) (.slice none 0 0)) := hZ; clear hZ; have hlz : w.heap.size < w5.heap.size := HZ.out.lt; have hne2 : w.heap.size ≠ w5.heap.size := (by omega); obtain ⟨k0, k1, k2, kf⟩ := id HZ.out))
    have HX := alloc_box (box_put HZ.out HQ.out.2.1 (.int .i64 0) (.int .i64 0) (.slice none 0 0)) (Obj.cells #[.int .i64 p.1, .int .i64 p.2.1, .slice ma p.2.2.length mc] 24) (Nat.le_refl _)
    exact bodyPost_ret (resRd _ HX.1 rfl) rfl (readP_err er HX.2)
theorem Read_any {w : World} {v : Value} {b : BB} (h : ReadsV w v b) (hl : b.length ≤ 1000000) : Calls Try.prog 16 #[v] w (ReadP (readM b) v w) := by
  have h1 : ReadsV (w.alloc (Obj.cells #[.int .i64 0, .int .i64 0, .slice none 0 0] 24)) v b := h.below (zero_box w).2
  by_cases hb : b.length < 4
  · have e0 : readM b = (zPk, 5) := by unfold readM; rw [if_pos hb]
    rw [e0]
    exact Read_err (by decide) (unsummed_short h1 hb)
  · by_cases hs : sealB (b.take (b.length - 4)) = b
    · obtain ⟨p, er, hp⟩ : ∃ p er, endA (bodyT (b.take (b.length - 4), 0)).1 (bodyT (b.take (b.length - 4), 0)).2 = (p, er) := ⟨_, _, rfl⟩
      have e0 : readM b = if er = 0 then (if pchk p.1 p.2.1 p.2.2 = 0 then (p, 0) else (zPk, pchk p.1 p.2.1 p.2.2)) else (zPk, er) := by
        unfold readM
        rw [if_neg hb, if_pos hs, ← bodyT_end, endS_endA, hp]
      rw [e0]
      refine Read_ok ((unsummed_any h1 hb hl).mono fun e w' ⟨z1, z2⟩ => ?_) (by rw [List.length_take]; omega) hp
      rw [if_pos hs] at z1
      obtain ⟨a, n, c, y1, y2⟩ := z1
      exact ⟨a, n, c, y1, y2, z2⟩
    · have e0 : readM b = (zPk, 4) := by unfold readM; rw [if_neg hb, if_neg hs]
      rw [e0]
      refine Read_err (by decide) ((unsummed_any h1 hb hl).mono fun e w' ⟨z1, z2⟩ => ⟨?_, z2⟩)
      rw [if_neg hs] at z1
      exact z1
end
end Go.Proofs.Ytcaddedkodjgcaa
