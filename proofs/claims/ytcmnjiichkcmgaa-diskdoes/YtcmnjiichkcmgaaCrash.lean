/-
  What a crash does to the files, and the contract of Crash.
-/
import Derived.Test.YtcmnjiichkcmgaaList
import Derived.Deep.RegionWith
namespace Go.Proofs.Ytcmnjiichkcmgaa
open Go.RowKit Go.Maps Go.Sort

def nameS (k : Key) : ByteArray := ⟨k.toArray⟩
theorem key_nameS (k : Key) : key (nameS k) = k := by simp [key, nameS]
theorem encStr_nameS (k : Key) : encStr k = .string (nameS k) := rfl
theorem size_nameS (k : Key) : (nameS k).size = k.length := by simp [nameS, ByteArray.size]

/-- A slice of ints that reads as zs. -/
def IntsV (w : World) (v : Value) (zs : List Int) : Prop := ∃ a cap, v = .slice a zs.length cap ∧ zs.length ≤ maxLen ∧ (∀ n ∈ zs, (Lit.int .i64 n).wf = true) ∧ (zs = [] ∨ ∃ b off, a = some ⟨b, off, none⟩ ∧ ∀ i, i < zs.length → w.cell? ⟨b, off + i, none⟩ = some (.int .i64 (zs.getD i 0)))
/-- A slice of strings that reads as ks. -/
def StrsV (w : World) (v : Value) (ks : List Key) : Prop := ∃ a cap, v = .slice a ks.length cap ∧ (ks = [] ∨ ∃ g, a = some ⟨g, 0, none⟩ ∧ ∀ i, i < ks.length → w.cell? ⟨g, i, none⟩ = some (.string (nameS (ks.getD i []))))
theorem strs_of_row {w : World} {base : Nat} {v : Value} {ks : List Key} (h : w.ownsRow base 9 1 v ks.length (ks.map encStr)) : StrsV w v ks := by
  have hh := h
  rcases h.2 with ⟨rfl, h0⟩ | ⟨g, cap, cur, rfl, _⟩
  · obtain rfl : ks = [] := List.length_eq_zero_iff.1 h0
    exact ⟨none, 0, rfl, .inl rfl⟩
  · refine ⟨_, cap, rfl, .inr ⟨g, rfl, fun i hi => ?_⟩⟩
    rw [hh.cellAt i (by omega)]
    simp [hi, encStr_nameS]

/-- How many of a file's loose bytes stay. -/
def kept (zs : List Int) (j loose : Nat) : Nat := min (zs.getD j 0).toNat loose
def settled (l : List (BitVec 8)) : Option (List (BitVec 8) × Nat) := if l = [] then none else some (l, l.length)
/-- What is left of a file. -/
def left (G : Tab) (k : Key) (zs : List Int) (j : Nat) : List (BitVec 8) := (bytesOf G k).take (syncOf G k + kept zs j ((bytesOf G k).length - syncOf G k))
def crashTo (F : Tab) (ks : List Key) (zs : List Int) : Nat → Tab
  | 0 => F
  | j + 1 => upd (crashTo F ks zs j) (ks.getD j []) (settled (left (crashTo F ks zs j) (ks.getD j []) zs j))

theorem crashTo_later (F : Tab) (ks : List Key) (zs : List Int) (k : Key) : ∀ j, (∀ i, i < j → ks.getD i [] ≠ k) → crashTo F ks zs j k = F k
  | 0, _ => rfl
  | j + 1, h => by
    show upd _ _ _ k = _
    rw [upd_other _ _ (fun e => h j (by omega) e.symm), crashTo_later F ks zs k j (fun i hi => h i (by omega))]
theorem crashTo_next {F : Tab} {ks : List Key} (zs : List Int) (hn : ks.Nodup) {j : Nat} (hj : j < ks.length) : crashTo F ks zs j (ks.getD j []) = F (ks.getD j []) := by
  refine crashTo_later F ks zs _ j fun i hi e => ?_
  have h1 : ks[i]'(by omega) = ks[j] := by simpa [hj, show i < ks.length by omega] using e
  exact List.pairwise_iff_getElem.1 hn i j (by omega) hj hi h1

theorem Fits.upd {F : Tab} {M : Nat} (h : Fits F M) {k : Key} {x : Option (List (BitVec 8) × Nat)} (hx : ∀ l s, x = some (l, s) → s ≤ l.length ∧ l.length ≤ M) : Fits (upd F k x) M := by
  intro j l s hj
  by_cases e : j = k
  · subst e; rw [upd_same] at hj; exact hx l s hj
  · rw [upd_other _ _ e] at hj; exact h j l s hj
theorem settled_fits {l : List (BitVec 8)} {M : Nat} (h : l.length ≤ M) : ∀ m s, settled l = some (m, s) → s ≤ m.length ∧ m.length ≤ M := by
  intro m s hs
  unfold settled at hs
  split at hs
  · cases hs
  · simp only [Option.some.injEq, Prod.mk.injEq] at hs
    obtain ⟨rfl, rfl⟩ := hs
    exact ⟨Nat.le_refl _, h⟩
theorem crashTo_fits {F : Tab} {M : Nat} (h : Fits F M) (ks : List Key) (zs : List Int) : ∀ j, Fits (crashTo F ks zs j) M
  | 0 => h
  | j + 1 => (crashTo_fits h ks zs j).upd (settled_fits (by
      unfold left
      have := ((crashTo_fits h ks zs j).sync (ks.getD j [])).2
      rw [List.length_take]
      exact Nat.le_trans (Nat.min_le_right _ _) this))

theorem Did.trans {a b c : World} {pb N N' : Nat} {fp : Nat → Prop} {F F' : Tab} (h : Did a b pb fp N F) (h' : Did b c pb (grow fp a b) N' F') : Did a c pb fp N' F' := by
  obtain ⟨t1, _⟩ := h
  obtain ⟨t2, d2⟩ := h'
  have hsz := t1.size
  have hsz2 := t2.size
  refine ⟨t1.trans t2 ?_, d2.wider ?_ ?_⟩
  · rintro i hi (h | h)
    · exact h
    · omega
  · rintro i ((h | h) | h)
    · exact .inl h
    · exact .inr ⟨h.1, by omega⟩
    · exact .inr ⟨by omega, h.2⟩
  · rintro i (h | h)
    · obtain ⟨V, hs, _⟩ := d2
      exact hs i (.inl (.inl h))
    · exact h.2
theorem Did.disk {w w' : World} {pb N : Nat} {fp : Nat → Prop} {F : Tab} (h : Did w w' pb fp N F) : Disk w' pb (grow fp w w') N F := h.2
theorem drew_turned (tu : Nat → Prop) (w : World) : Turned tu w w.drew := ⟨rfl, rfl, rfl, Nat.le_refl _, fun _ _ _ => rfl⟩

theorem ReadsV.front {w : World} {a : Option Addr} {n c m : Nat} {l : List (BitVec 8)} (h : ReadsV w (.slice a n c) l) (hm : m ≤ n) : ReadsV w (.slice a m c) (l.take m) := by
  obtain ⟨a', c', hv, h1, h2, h3, h4⟩ := h
  simp only [Value.slice.injEq] at hv
  obtain ⟨rfl, rfl, rfl⟩ := hv
  have hl : (l.take m).length = m := by simp; omega
  refine ⟨a, c, by rw [hl], h1, by omega, h3, ?_⟩
  have := h4.cut 0 m false (by simp)
  refine ⟨by rw [hl]; unfold maxLen at *; omega, ?_⟩
  rcases h4.2 with h0 | ⟨b, off, ha, hc⟩
  · left; rw [h0]; simp
  · right
    refine ⟨b, off, ha, fun i hi => ?_⟩
    rw [hc i (by omega)]
    simp [nth, show i < m by omega, show i < l.length by omega]

/-- What a round of the crash stands on. -/
theorem round_facts {pb N M : Nat} {fp : Nat → Prop} {G : Tab} {s : ByteArray} {w1 wr : World} (hd : Did w1 wr pb fp N G) (hN : N < 1000000000) (hf : Fits G M) (hM : M ≤ 50000000000000) (hs : s.size ≤ maxLen) (hin : (G (key s)).isSome = true) :
    ∃ mo a n c, n = (bytesOf G (key s)).length ∧ n ≤ c ∧ (∀ w3, Turned (fun _ => False) wr w3 → w3.cell? ⟨pb, 0, none⟩ = some (.map mo) ∧ (Instr.lookup 51 (.map mo) (.string s) false).run Try.prog w3 = .ok (.agg #[.slice a n c, .int .i64 (syncOf G (key s))]) w3 ∧ ReadsV w3 (.slice a n c) (bytesOf G (key s))) ∧
      (∀ w2, Turned (fun _ => False) wr w2 → Calls Try.prog 18 #[.pointer (some ⟨pb, 0, none⟩), .string s] w2 fun e w' => e = .returned (.int .i64 ((bytesOf G (key s)).length - syncOf G (key s) : Nat)) ∧ Turned (fun _ => False) wr w') ∧
      (∀ w4 v l, Turned (fun _ => False) wr w4 → ReadsV w4 v l → l.length ≤ 100000000000000 → Calls Try.prog 32 #[.pointer (some ⟨pb, 0, none⟩), .string s, v] w4 fun e w' => e = .returned (.tuple #[]) ∧ Did w1 w' pb fp N (upd G (key s) (settled l))) := by
  have hd2 := hd.disk
  obtain ⟨V, hdv⟩ := hd.disk
  obtain ⟨mo, hl⟩ := hdv.look_all hs trivial
  have h0 := hl wr (Turned.refl _ _)
  obtain ⟨a, c, hv, _, hc, _⟩ := ReadsV.of_own h0.2.2
  refine ⟨mo, a, _, c, rfl, hc, ?_, ?_, ?_⟩
  · intro w3 hT
    obtain ⟨h1, h2, h3⟩ := hl w3 hT
    rw [hv] at h2 h3
    exact ⟨h1, h2, ReadsV.of_own h3⟩
  · intro w2 hT
    refine (loose_any pb N M _ G s w2 (hd2.kept hT (fun _ _ h => h)) hs hf (by omega)).mono ?_
    rintro e w' ⟨rfl, hB⟩
    exact ⟨rfl, hT.trans (below_turned hB) (fun _ _ h => h)⟩
  · intro w4 v l hT hr hlen
    refine (settle_any pb N _ G s v l w4 (hd2.kept hT (fun _ _ h => h)) hs hN hr hlen).mono ?_
    rintro e w' ⟨rfl, hdid⟩
    have hm : more G (key s) N = N := by unfold more; rw [hin]; rfl
    rw [hm] at hdid
    exact ⟨rfl, hd.trans (Did.ahead hT hdid)⟩

set_option maxRecDepth 100000 in
set_option maxHeartbeats 1000000 in
theorem crash_walk (pb N M : Nat) (fp : Nat → Prop) (F : Tab) (ka : Option Addr) (zn kc : Nat) (zs : List Int) (w : World) (hd : Disk w pb fp N F) (hN : N < 1000000000) (hf : Fits F M) (hM : M ≤ 50000000000000) (hzn : zs.length = zn) (hzm : zn ≤ 9223372036854775807) (hk : ∀ w3, Turned fp w w3 → IntsV w3 (.slice ka zn kc) zs) :
    Calls Try.prog 19 #[.pointer (some ⟨pb, 0, none⟩), .slice ka zn kc] w fun e w' => e = .returned (.tuple #[]) ∧ ∃ ks, NamesOf F ks ∧ Did w w' pb fp N (crashTo F ks zs ks.length) := by
  have HD : Hid (Disk w pb fp N F ∧ N < 1000000000 ∧ Fits F M ∧ zs.length = zn ∧ M ≤ 50000000000000) := ⟨hd, hN, hf, hzn, hM⟩
  have HK : Hid (∀ w3, Turned fp w w3 → IntsV w3 (.slice ka zn kc) zs) := hk
  clear hd hk hN hf hzn hM
  go_enter Try.func19, Try.ntmps19
  go_wp2_with (go_at_call 17; refine (names_any pb N fp F _ HD.out.1 HD.out.2.1).mono ?_; rintro e w1 ⟨v, ks, rfl, hks, hlen, hle, hrow, hB⟩; obtain ⟨na, nc, rfl, hst⟩ := strs_of_row hrow; have HS : Hid (NamesOf F ks ∧ ks.length ≤ N ∧ (∀ k ∈ ks, k.length ≤ maxLen) ∧ (w1.ownsRow w.heap.size 9 1 (.slice na ks.length nc) ks.length (ks.map encStr)) ∧ Below w.heap.size w w1) := ⟨hks, hlen, hle, hrow, hB⟩; have HN : Hid (ks.length ≤ 1000000000) := (show _ ≤ _ from Nat.le_trans hlen (Nat.le_of_lt HD.out.2.1)); clear hks hlen hle hrow hB hst; generalize hn : ks.length = n at HN ⊢; have HL : Hid (ks.length = n) := hn; have hnn : n ≤ 1000000000 := HN.out; clear hn)
  go_loopw [11] (fun i wr => ∃ j : Nat, j ≤ n ∧ i = .int .i64 j ∧ Hid (Did w1 wr pb fp N (crashTo F ks zs j))) (fun i _ => n - (intOf i).toNat)
  case atStart =>
    refine ⟨0, Nat.zero_le _, rfl, ?_⟩
    obtain ⟨h1, h2, h3, h4, h5⟩ := HS.out
    exact Did.none (HD.out.1.kept (below_turned h5) (fun _ _ h => h))
  case round =>
    obtain ⟨j, hj, rfl, HJ⟩ := hrel
    by_cases hlt : j < n
    · have hin : j < ks.length := by rw [HL.out]; exact hlt
      obtain ⟨h1, h2, h3, h4, h5⟩ := HS.out
      have hT1 : Turned fp w1 wr := HJ.out.1
      have hrow : wr.ownsRow w.heap.size 9 1 (.slice na ks.length nc) ks.length (ks.map encStr) := owns_turned h4 hT1 (fun g hg hfp => by obtain ⟨V, hs, _⟩ := HD.out.1; have := hs g hfp; have := (World.ownsRow.lt h4 g hg).1; omega)
      obtain ⟨na', nc', hna, hst⟩ := strs_of_row hrow
      simp only [Value.slice.injEq] at hna
      obtain ⟨rfl, -, rfl⟩ := hna
      rcases hst with h0 | ⟨g, rfl, hcell⟩
      · subst h0; simp at hin
      have hname := hcell j hin
      have hnx : crashTo F ks zs j (ks.getD j []) = F (ks.getD j []) := crashTo_next zs h1.once hin
      have hmem : ks.getD j [] ∈ ks := by
        have e : ks.getD j [] = ks[j] := by simp [hin]
        rw [e]; exact List.getElem_mem _
      have hsz : (nameS (ks.getD j [])).size ≤ maxLen := by rw [size_nameS]; exact h3 _ hmem
      have hG := crashTo_fits HD.out.2.2.1 ks zs j
      obtain ⟨mo, a, m, c, hm, hmc, hlk, hlo, hse⟩ := round_facts (s := nameS (ks.getD j [])) HJ.out HD.out.2.1 hG HD.out.2.2.2.2 hsz (by rw [key_nameS, hnx]; exact (h1.mem _).1 hmem)
      have hnext : crashTo F ks zs (j + 1) = upd (crashTo F ks zs j) (ks.getD j []) (settled (left (crashTo F ks zs j) (ks.getD j []) zs j)) := rfl
      rw [← key_nameS (ks.getD j [])] at hnext
      have hIk : IntsV wr (.slice ka zn kc) zs := HK.out wr ((below_turned h5).mono (fun _ _ h => h.elim) |>.trans hT1 (fun _ _ h => h))
      have hfit := hG.sync (key (nameS (ks.getD j [])))
      have HSe : Hid (∀ w4 v, Turned (fun _ => False) wr w4 → ReadsV w4 v (left (crashTo F ks zs j) (key (nameS (ks.getD j []))) zs j) → Calls Try.prog 32 #[.pointer (some ⟨pb, 0, none⟩), .string (nameS (ks.getD j [])), v] w4 fun e w' => e = .returned (.tuple #[]) ∧ Did w1 w' pb fp N (crashTo F ks zs (j + 1))) := fun w4 v hT hr => by
        rw [hnext]
        refine hse w4 v _ hT hr ?_
        unfold left
        have h1 := hfit.2
        have h2 := HD.out.2.2.2.2
        rw [List.length_take]
        have := Nat.min_le_right (syncOf (crashTo F ks zs j) (key (nameS (ks.getD j []))) + kept zs j ((bytesOf (crashTo F ks zs j) (key (nameS (ks.getD j [])))).length - syncOf (crashTo F ks zs j) (key (nameS (ks.getD j []))))) (bytesOf (crashTo F ks zs j) (key (nameS (ks.getD j [])))).length
        omega
      clear hse hnext hnx hmem hsz hG
      unfold left at HSe
      have hMM := HD.out.2.2.2.2
      generalize bytesOf (crashTo F ks zs j) (key (nameS (ks.getD j []))) = bb at *
      generalize syncOf (crashTo F ks zs j) (key (nameS (ks.getD j []))) = sy at *
      generalize nameS (ks.getD j []) = s at *
      generalize hF1 : crashTo F ks zs (j + 1) = F1 at HSe
      have HF1 : Hid (crashTo F ks zs (j + 1) = F1) := hF1
      have HLk : Hid (∀ w3, Turned (fun _ => False) wr w3 → w3.cell? ⟨pb, 0, none⟩ = some (.map mo) ∧ (Instr.lookup 51 (.map mo) (.string s) false).run Try.prog w3 = .ok (.agg #[.slice a m c, .int .i64 (sy : Int)]) w3 ∧ ReadsV w3 (.slice a m c) bb) := hlk
      have HLo : Hid (∀ w2, Turned (fun _ => False) wr w2 → Calls Try.prog 18 #[.pointer (some ⟨pb, 0, none⟩), .string s] w2 fun e w' => e = .returned (.int .i64 ((bb.length - sy : Nat) : Int)) ∧ Turned (fun _ => False) wr w') := hlo
      have HIn : Hid (j < ks.length) := hin
      clear hF1 hlk hlo hrow h1 h2 h3 h4 h5 hcell hT1 hin
      rw [← hm] at HLo HSe hfit
      obtain ⟨hf1, hf2⟩ := hfit
      have hmM : m ≤ 50000000000000 := by omega
      clear hf2 hMM
      have HB : Hid (m = bb.length) := hm
      clear hm
      by_cases hz : j < zn
      · have hz' : (j : Int) < (zn : Int) := by omega
        obtain ⟨ka', kc', hka, _, hwf, hkc⟩ := hIk
        simp only [Value.slice.injEq] at hka
        obtain ⟨rfl, -, rfl⟩ := hka
        rcases hkc with h0 | ⟨kb, ko, rfl, hkc⟩
        · have h9 := HD.out.2.2.2.1
          rw [h0] at h9
          simp at h9
          omega
        have hkj := hkc j (by rw [HD.out.2.2.2.1]; exact hz)
        have hwj : (Lit.int .i64 (zs.getD j 0)).wf = true := by
          have h9 := HD.out.2.2.2.1
          have e : zs.getD j 0 = zs[j] := by simp [show j < zs.length by omega]
          rw [e]; exact hwf _ (List.getElem_mem _)
        have HCk : Hid (∀ w2, Turned (fun _ => False) wr w2 → w2.cell? ⟨kb, ko + j, none⟩ = some (.int .i64 (zs.getD j 0))) := fun w2 hT => by
          have hlt := World.block_lt_of_cell? wr _ hkj
          rw [World.cell?_of_block (hT.block kb hlt (fun h => h))]; exact hkj
        clear hkc hwf
        have HKp : Hid (kept zs j (m - sy) = min (zs.getD j 0).toNat (m - sy)) := rfl
        rw [HKp.out] at HSe
        generalize zs.getD j 0 = z at *
        have hz64 := bounds_i64 hwj
        clear hwj HKp
        obtain ⟨kp, hkp⟩ : ∃ kp, min z.toNat (m - sy) = kp := ⟨_, rfl⟩
        have hmin : min (max z 0) ((m - sy : Nat) : Int) = (kp : Int) := by omega
        have hks : sy + kp ≤ m := by omega
        have HKS : Hid (sy + kp ≤ m) := hks
        rw [hkp] at HSe
        clear hkp
        go_wp2
        go_region_with (go_at_call 18; refine (HLo.out _ (drew_turned _ _)).mono ?_; rintro e w2 ⟨rfl, hT⟩; have hk2 := HCk.out _ hT; obtain ⟨c1, r1, _⟩ := HLk.out _ hT; have HT : Hid (Turned (fun _ => False) wr w2) := hT; clear hT)
        all_goals
          go_wp2_with (go_at_call 32; refine (HSe.out _ _ (HT.out.trans (Turned.alloc _ _ _) (fun _ _ h => h)) ((HLk.out _ (HT.out.trans (Turned.alloc _ _ _) (fun _ _ h => h))).2.2.front HKS.out)).mono ?_; rintro e w5 ⟨rfl, hdid⟩)
          go_roundw
          case rel => exact ⟨j + 1, by omega, by go_num, by rw [HF1.out]; exact hdid⟩
          case measure => simp [intOf]; omega
      · have HKp : Hid (kept zs j (m - sy) = 0) := by
          show _ = _
          unfold kept
          have h9 := HD.out.2.2.2.1
          have : zs.getD j 0 = 0 := by simp [List.getD, List.getElem?_eq_none (show zs.length ≤ j by omega)]
          rw [this]; simp
        rw [HKp.out] at HSe
        have hz' : ¬ ((j : Int) < (zn : Int)) := by omega
        obtain ⟨c1, r1, _⟩ := HLk.out wr (Turned.refl _ _)
        clear hIk
        go_wp2_with (go_at_call 32; refine (HSe.out _ _ (Turned.alloc _ _ _) ((HLk.out _ (Turned.alloc _ _ _)).2.2.front hf1)).mono ?_; rintro e w5 ⟨rfl, hdid⟩)
        go_roundw
        case rel => exact ⟨j + 1, by omega, by go_num, by rw [HF1.out]; exact hdid⟩
        case measure => simp [intOf]; omega
    · have hjn : j = n := by omega
      have HE : Hid (NamesOf F ks ∧ Did w wr pb fp N (crashTo F ks zs ks.length)) := by
        refine ⟨HS.out.1, ?_⟩
        rw [HL.out, ← hjn]
        exact Did.ahead (below_turned HS.out.2.2.2.2) HJ.out
      have hjn' : ¬ (j : Int) < (n : Int) := by omega
      clear hjn
      go_wp2
      go_end0
      exact ⟨rfl, ks, HE.out⟩

theorem crash_any (pb N M : Nat) (fp : Nat → Prop) (F : Tab) (v : Value) (zs : List Int) (w : World) (hd : Disk w pb fp N F) (hN : N < 1000000000) (hf : Fits F M) (hM : M ≤ 50000000000000) (hk : ∀ w3, Turned fp w w3 → IntsV w3 v zs) :
    Calls Try.prog 19 #[.pointer (some ⟨pb, 0, none⟩), v] w fun e w' => e = .returned (.tuple #[]) ∧ ∃ ks, NamesOf F ks ∧ Did w w' pb fp N (crashTo F ks zs ks.length) := by
  obtain ⟨a, c, rfl, h1, _⟩ := hk w (Turned.refl _ _)
  exact crash_walk pb N M fp F a zs.length c zs w hd hN hf hM rfl h1 hk

end Go.Proofs.Ytcmnjiichkcmgaa
