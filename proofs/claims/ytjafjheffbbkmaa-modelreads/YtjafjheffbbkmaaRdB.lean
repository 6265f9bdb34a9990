/-
  The program's take, number, text: contracts.
-/
import Derived.Test.YtjafjheffbbkmaaRdA
namespace Go.Proofs.Ytjafjheffbbkmaa
open Go.RowKit
open V.Pack (rd unzz)
set_option linter.unusedVariables false

/-- The next byte, and what is then. -/
def hdS (s : Sst) : Nat := match s.rest with
  | [] => 0
  | b :: _ => b.toNat
def tlS (s : Sst) : Sst := match s.rest with
  | [] => refuseS 5 ⟨s.err, []⟩
  | _ :: r => ⟨0, r⟩
theorem hd_ok {s : Sst} {x : Nat} {r : BB} (h : byteE s.rest = .ok (x, r)) (he : s.err = 0) : x = hdS s ∧ (⟨0, r⟩ : Sst) = tlS s := by
  unfold hdS tlS
  cases hr : s.rest with
  | nil => rw [hr] at h; cases h
  | cons b t => rw [hr] at h; cases h; exact ⟨rfl, rfl⟩
theorem hd_bad {s : Sst} {e : Nat} (h : byteE s.rest = .error e) : 0 = hdS s ∧ refuseS e ⟨s.err, []⟩ = tlS s := by
  unfold hdS tlS
  cases hr : s.rest with
  | nil => rw [hr] at h; cases h; exact ⟨rfl, rfl⟩
  | cons b t => rw [hr] at h; cases h
theorem hd_lt (s : Sst) : hdS s < 256 := by
  unfold hdS
  split
  · decide
  · exact BitVec.isLt _
theorem hd_err {s : Sst} (h : s.err ≠ 0 → s.rest = []) (he : s.err ≠ 0) : hdS s = 0 ∧ tlS s = s := by
  have e := h he
  unfold hdS tlS
  rw [e]
  refine ⟨rfl, ?_⟩
  show refuseS 5 ⟨s.err, []⟩ = s
  unfold refuseS
  rw [if_neg (by rintro ⟨_, q⟩; exact he q)]
  obtain ⟨a, b⟩ := s
  simp only at e
  rw [e]
theorem near_lt {a ra : Option Addr} {n c rn rc rb : Nat} (hn : V.Near (.slice a n c) (.slice ra rn rc)) (h : ∀ x, a = some x → x.block < rb) : ∀ x, ra = some x → x.block < rb := fun x hx => hn (fun b => b < rb) (fun a' n' c' e => by simp only [Value.slice.injEq] at e; exact h a' e.1) x rn rc (by rw [hx])
set_option maxRecDepth 100000 in
theorem readBytes_near (v : Value) (l : List (BitVec 8)) (k m : Nat) (w : World) (h : V.ReadsV w v l) (hk : rd 0 l = .inl k) (hm : V.Pack.val (l.take k) = m) (hlt : m ≤ l.length - k) :
    Calls Try.prog 98 #[v] w fun e w' => ∃ sv rv, e = .returned (.tuple #[sv, rv, .int .i64 0]) ∧ V.ReadsV w' sv ((l.drop k).take m) ∧ V.ReadsV w' rv (l.drop (k + m)) ∧ Below w.heap.size w w' ∧ V.Near v rv ∧ V.Near v sv := by
  have HR : Hid (V.ReadsV w v l) := h
  have HK : Hid (rd 0 l = .inl k) := hk
  have HM : Hid (V.Pack.val (l.take k) = m) := hm
  have hm64 : m < 18446744073709551616 := by rw [← hm]; exact (V.Pack.rd0_ok hk).2.2.2.2
  obtain ⟨n, hn⟩ : ∃ n, l.length - k = n := ⟨_, rfl⟩
  have HN : Hid (l.length - k = n) := hn
  have hnm : n ≤ 9223372036854775807 := by obtain ⟨_, _, _, _, _, _, hr⟩ := h; have := hr.1; rw [V.maxLen_eq] at this; omega
  have hlt' : m ≤ n := by omega
  clear h hk hm hlt hn
  go_enter Try.func98, Try.ntmps98
  go_wp2_with (go_at_call 100; refine (V.readUint_ok _ l k m _ HR.out HK.out HM.out).mono ?_; rw [HN.out]; rintro e w' ⟨a, c, rfl, hr, hB, hNr⟩)
  have HNr : Hid (V.Near v (.slice a n c)) := hNr
  clear hNr
  have hnc : n ≤ c := hr.cap
  have hmc : m ≤ c := by omega
  have HQ : Hid (V.ReadsV w' (.slice a n c) (l.drop k)) := hr
  clear hr
  go_region
  go_wp2
  · go_ret3
    exact ⟨_, _, rfl, V.cut_head HQ.out hlt', V.cut_tail0 HQ.out (by assumption), hB.drew, HNr.out.trans (V.near_cut _ _ _ _ _), HNr.out.trans (V.near_cut _ _ _ _ _)⟩
  · go_ret3
    exact ⟨_, _, rfl, V.cut_head HQ.out hlt', V.cut_tail HQ.out hlt' (by assumption), hB.drew, HNr.out.trans (V.near_add _ _ _ _ _ _ (fun x => V.add_block x m)), HNr.out.trans (V.near_cut _ _ _ _ _)⟩
set_option maxRecDepth 100000 in
set_option maxHeartbeats 400000 in
theorem takeByte_any (rb : Nat) (s : Sst) (w : World) (h : Rst w rb s) : Calls Try.prog 91 #[.pointer (some ⟨rb, 0, none⟩), .func (.func 92) #[] #[]] w fun e w' => ∃ x s', (e = .returned (.int .u8 (x : Nat)) ∧ x = hdS s ∧ s' = tlS s) ∧ After byteE s x s' ∧ Rst w' rb s' ∧ Fr rb w w' := by
  have HS : Hid (Rst w rb s) := h
  obtain ⟨⟨a, c, h1, h1r, h1b⟩, h2, h3, h4⟩ := h
  have hlt : rb < w.heap.size := World.block_lt_of_cell? w _ h2
  have HV : Hid (V.ReadsV w (.slice a s.rest.length c) s.rest) := h1r
  have HBl0 : Hid (s.rest ≠ [] → ∀ x, a = some x → x.block < rb) := h1b
  have HN : Hid (s.err ≠ 0 → s.rest = []) := h4
  have HF : Hid (∀ e s1 w1, Rst w1 rb s1 → Calls Try.prog 70 #[.pointer (some ⟨rb, 0, none⟩), .int .i64 (e : Nat)] w1 fun en w' => en = .returned (.tuple #[]) ∧ Rst w' rb (refuseS e s1) ∧ Fr rb w1 w') := fun e s1 w1 q => refuse_any rb e s1 w1 q
  clear h1r h1b h4
  cases hf : byteE s.rest with
  | ok xr =>
    obtain ⟨x, r⟩ := xr
    have he0 : s.err = 0 := ok_zero hf (fun y q => by cases q) HN.out
    have HA : Hid (After byteE s x ⟨0, r⟩) := after_zero hf he0 rfl
    have HBl : Hid (∀ x, a = some x → x.block < rb) := HBl0.out (fun e => by rw [e] at hf; cases hf)
    have HC : Hid (Calls Try.prog 92 #[.slice a s.rest.length c] w fun e w' => ∃ ra rn rc, e = .returned (.tuple #[.int .u8 x, .slice ra rn rc, .int .i64 0]) ∧ V.ReadsV w' (.slice ra rn rc) r ∧ V.Near (.slice a s.rest.length c) (.slice ra rn rc) ∧ Below w.heap.size w w') := by
      have hv := HV.out
      cases hr : s.rest with
      | nil => rw [hr] at hf; cases hf
      | cons b t =>
        rw [hr] at hf hv
        cases hf
        refine (readByte_some _ b _ w hv).mono ?_
        rintro e w' ⟨rv, rfl, q1, q2, q3⟩
        have q1' := q1
        obtain ⟨ra, rc, rfl, _⟩ := q1'
        exact ⟨_, _, _, rfl, q1, q2, q3⟩
    have HX : Hid (x = hdS s ∧ ⟨0, r⟩ = tlS s) := hd_ok hf he0
    rw [he0] at h2
    have HRs : Hid (∀ w1 ra rn rc, Below w.heap.size w w1 → V.ReadsV w1 (.slice ra rn rc) r → (r ≠ [] → ∀ y, ra = some y → y.block < rb) → Rst (w1.setCell ⟨rb, 0, none⟩ (.slice ra rn rc)) rb ⟨0, r⟩) := fun w1 ra rn rc hb q1 q2 => by
      have := (HS.out.below hb hlt).rested q1 q2 (fun q => absurd he0 q)
      rwa [he0] at this
    clear hf he0
    generalize s.rest.length = n at *
    go_enter Try.func91, Try.ntmps91
    go_wp2_with (first
      | (go_at_call 70; have := HT; refine (HF.out 0 ⟨0, r⟩ _ HT.out.1).mono ?_; rintro e w2 ⟨rfl, q1, q2⟩; have HT2 : Hid (Rst w2 rb ⟨0, r⟩ ∧ Fr rb w w2) := ⟨by have := q1; unfold refuseS at this; rwa [if_neg (by simp)] at this, HT.out.2.trans q2⟩; have HFr : Hid (Fr rb _ w2) := q2; clear q1 q2 HT)
      | (go_at_call 92; refine HC.out.mono ?_; rintro e w1 ⟨ra, rn, rc, rfl, q1, q2, q3⟩; have HT : Hid (Rst (w1.setCell ⟨rb, 0, none⟩ (.slice ra rn rc)) rb ⟨0, r⟩ ∧ Fr rb w (w1.setCell ⟨rb, 0, none⟩ (.slice ra rn rc))) := ⟨HRs.out _ _ _ _ q3 q1 (fun _ => near_lt q2 HBl.out), (Fr.of_below q3).setCell (p := ⟨rb, 0, none⟩) (.inl rfl) _⟩; have k0 := (q3.cell (p := ⟨rb, 0, none⟩) hlt).trans h1; have k3 : ∀ i, w1.frozen? ⟨rb, i, none⟩ = false := fun i => (q3.frozen (p := ⟨rb, i, none⟩) hlt).trans (h3 i); have klt : rb < w1.heap.size := Nat.lt_of_lt_of_le hlt q3.size; clear q1 q2 q3))
    go_ret
    exact ⟨x, ⟨0, r⟩, ⟨rfl, HX.out⟩, HA.out, HT2.out⟩
  | error ec =>
    have hz : ec ≠ 0 := NZ.byte _ _ hf
    have HZ : Hid (0 = hdS s ∧ refuseS ec ⟨s.err, []⟩ = tlS s) := hd_bad hf
    have HC : Hid (Calls Try.prog 92 #[.slice a s.rest.length c] w fun e w' => e = .returned (.tuple #[.int .u8 0, .slice none 0 0, .int .i64 (ec : Nat)]) ∧ Below w.heap.size w w') := by
      have hv := HV.out
      cases hr : s.rest with
      | cons b t => rw [hr] at hf; cases hf
      | nil =>
        rw [hr] at hf hv
        cases hf
        refine (readByte_none _ w hv).mono ?_
        rintro e w' ⟨rfl, rfl⟩
        exact ⟨rfl, Below.refl _ _⟩
    have HA : Hid (∀ x, After byteE s x (refuseS ec ⟨s.err, []⟩)) := fun x => after_bad hf hz HN.out rfl
    have HRs : Hid (∀ w1, Below w.heap.size w w1 → Rst (w1.setCell ⟨rb, 0, none⟩ (.slice none 0 0)) rb ⟨s.err, []⟩) := fun w1 hb => (HS.out.below hb hlt).rested (V.ReadsV.nil _) (fun _ x hx => by cases hx) (fun _ => rfl)
    clear hf
    generalize s.rest.length = n at *
    generalize hse : s.err = se at *
    go_enter Try.func91, Try.ntmps91
    go_wp2_with (first
      | (go_at_call 70; have := HT; refine (HF.out ec ⟨se, []⟩ _ HT.out.1).mono ?_; rintro e w2 ⟨rfl, q1, q2⟩; have HT2 : Hid (Rst w2 rb (refuseS ec ⟨se, []⟩) ∧ Fr rb w w2) := ⟨q1, HT.out.2.trans q2⟩; clear q1 q2 HT)
      | (go_at_call 92; refine HC.out.mono ?_; rintro e w1 ⟨rfl, q1⟩; have HT : Hid (Rst (w1.setCell ⟨rb, 0, none⟩ (.slice none 0 0)) rb ⟨se, []⟩ ∧ Fr rb w (w1.setCell ⟨rb, 0, none⟩ (.slice none 0 0))) := ⟨HRs.out _ q1, (Fr.of_below q1).setCell (p := ⟨rb, 0, none⟩) (.inl rfl) _⟩; have k0 := (q1.cell (p := ⟨rb, 0, none⟩) hlt).trans h1; have k3 : ∀ i, w1.frozen? ⟨rb, i, none⟩ = false := fun i => (q1.frozen (p := ⟨rb, i, none⟩) hlt).trans (h3 i); have klt : rb < w1.heap.size := Nat.lt_of_lt_of_le hlt q1.size; clear q1))
    go_ret
    exact ⟨0, _, ⟨rfl, HZ.out⟩, HA.out _, HT2.out⟩
theorem uE_rd {l r : BB} {n : Nat} (h : uE l = .ok (n, r)) : ∃ k, rd 0 l = .inl k ∧ V.Pack.val (l.take k) = n ∧ l.drop k = r := by
  unfold uE at h
  rcases hk : rd 0 l with k | q
  · rw [hk] at h
    simp only [Except.ok.injEq, Prod.mk.injEq] at h
    exact ⟨k, rfl, h.1, h.2⟩
  · rw [hk] at h; cases h
theorem uE_bad {l : BB} {e : Nat} (h : uE l = .error e) : (∀ k, rd 0 l ≠ .inl k) ∧ V.code (rd 0 l) = (e : Int) := by
  unfold uE at h
  rcases hk : rd 0 l with k | q
  · rw [hk] at h; cases h
  · rw [hk] at h
    cases h
    refine ⟨(fun k e => by cases e), ?_⟩
    cases q <;> rfl
theorem intE_rd {l r : BB} {n : Int} (h : intE l = .ok (n, r)) : ∃ k, rd 0 l = .inl k ∧ unzz (V.Pack.val (l.take k)) = n ∧ l.drop k = r := by
  obtain ⟨u, m, h1, h2⟩ := bind_ok h
  cases h2
  obtain ⟨k, a, b, c⟩ := uE_rd h1
  exact ⟨k, a, by rw [b], c⟩
theorem intE_bad {l : BB} {e : Nat} (h : intE l = .error e) : (∀ k, rd 0 l ≠ .inl k) ∧ V.code (rd 0 l) = (e : Int) := by
  rcases bind_err h with h | ⟨a, m, h1, h2⟩
  · exact uE_bad h
  · cases h2
theorem intE_in {l r : BB} {n : Int} (h : intE l = .ok (n, r)) : InR n := by
  obtain ⟨u, m, h1, h2⟩ := bind_ok h
  cases h2
  have := (uE_ok h1).2
  unfold InR unzz
  split <;> omega
theorem textE_rd {l r s : BB} (h : textE l = .ok (s, r)) : ∃ k, rd 0 l = .inl k ∧ V.Pack.val (l.take k) ≤ l.length - k ∧ (l.drop k).take (V.Pack.val (l.take k)) = s ∧ l.drop (k + V.Pack.val (l.take k)) = r := by
  obtain ⟨u, m, h1, h2⟩ := bind_ok h
  obtain ⟨k, a, b, c⟩ := uE_rd h1
  unfold takeE at h2
  split at h2
  · rename_i hm
    cases h2
    subst c
    subst b
    exact ⟨k, a, by rw [List.length_drop] at hm; exact hm, rfl, by rw [List.drop_drop]⟩
  · cases h2
theorem textE_bad {l : BB} {e : Nat} (h : textE l = .error e) : ((∀ k, rd 0 l ≠ .inl k) ∧ V.code (rd 0 l) = (e : Int)) ∨ (e = 5 ∧ ∃ k, rd 0 l = .inl k ∧ l.length - k < V.Pack.val (l.take k)) := by
  rcases bind_err h with h | ⟨a, m, h1, h2⟩
  · exact .inl (uE_bad h)
  · obtain ⟨k, p, b, c⟩ := uE_rd h1
    unfold takeE at h2
    split at h2
    · cases h2
    · rename_i hm
      cases h2
      subst c
      rw [List.length_drop] at hm
      exact .inr ⟨rfl, k, p, by omega⟩
set_option maxRecDepth 100000 in
set_option maxHeartbeats 400000 in
theorem takeInt_any (rb : Nat) (s : Sst) (w : World) (h : Rst w rb s) : Calls Try.prog 93 #[.pointer (some ⟨rb, 0, none⟩), .func (.func 94) #[] #[]] w fun e w' => ∃ x s', (e = .returned (.int .i64 x) ∧ InR x) ∧ After intE s x s' ∧ Rst w' rb s' ∧ Fr rb w w' := by
  have HS : Hid (Rst w rb s) := h
  obtain ⟨⟨a, c, h1, h1r, h1b⟩, h2, h3, h4⟩ := h
  have hlt : rb < w.heap.size := World.block_lt_of_cell? w _ h2
  have HV : Hid (V.ReadsV w (.slice a s.rest.length c) s.rest) := h1r
  have HBl0 : Hid (s.rest ≠ [] → ∀ x, a = some x → x.block < rb) := h1b
  have HN : Hid (s.err ≠ 0 → s.rest = []) := h4
  have HF : Hid (∀ e s1 w1, Rst w1 rb s1 → Calls Try.prog 70 #[.pointer (some ⟨rb, 0, none⟩), .int .i64 (e : Nat)] w1 fun en w' => en = .returned (.tuple #[]) ∧ Rst w' rb (refuseS e s1) ∧ Fr rb w1 w') := fun e s1 w1 q => refuse_any rb e s1 w1 q
  clear h1r h1b h4
  cases hf : intE s.rest with
  | ok xr =>
    obtain ⟨x, r⟩ := xr
    have he0 : s.err = 0 := ok_zero hf (fun y q => by cases q) HN.out
    have HA : Hid (After intE s x ⟨0, r⟩) := after_zero hf he0 rfl
    have HBl : Hid (∀ x, a = some x → x.block < rb) := HBl0.out (fun e => by rw [e] at hf; cases hf)
    have HC : Hid (Calls Try.prog 94 #[.slice a s.rest.length c] w fun e w' => ∃ ra rn rc, e = .returned (.tuple #[.int .i64 x, .slice ra rn rc, .int .i64 0]) ∧ V.ReadsV w' (.slice ra rn rc) r ∧ V.Near (.slice a s.rest.length c) (.slice ra rn rc) ∧ Below w.heap.size w w') := by
      obtain ⟨k, hk, hx, hr⟩ := intE_rd hf
      refine (V.readInt_ok _ _ k _ w HV.out hk rfl).mono ?_
      rintro e w' ⟨ra, rc, rfl, q1, q2, q3⟩
      rw [← hr, ← hx]
      exact ⟨_, _, _, rfl, q1, q3, q2⟩
    have HX : Hid (InR x) := intE_in hf
    rw [he0] at h2
    have HRs : Hid (∀ w1 ra rn rc, Below w.heap.size w w1 → V.ReadsV w1 (.slice ra rn rc) r → (r ≠ [] → ∀ y, ra = some y → y.block < rb) → Rst (w1.setCell ⟨rb, 0, none⟩ (.slice ra rn rc)) rb ⟨0, r⟩) := fun w1 ra rn rc hb q1 q2 => by
      have := (HS.out.below hb hlt).rested q1 q2 (fun q => absurd he0 q)
      rwa [he0] at this
    clear hf he0
    generalize s.rest.length = n at *
    go_enter Try.func93, Try.ntmps93
    go_wp2_with (first
      | (go_at_call 70; have := HT; refine (HF.out 0 ⟨0, r⟩ _ HT.out.1).mono ?_; rintro e w2 ⟨rfl, q1, q2⟩; have HT2 : Hid (Rst w2 rb ⟨0, r⟩ ∧ Fr rb w w2) := ⟨by have := q1; unfold refuseS at this; rwa [if_neg (by simp)] at this, HT.out.2.trans q2⟩; have HFr : Hid (Fr rb _ w2) := q2; clear q1 q2 HT)
      | (go_at_call 94; refine HC.out.mono ?_; rintro e w1 ⟨ra, rn, rc, rfl, q1, q2, q3⟩; have HT : Hid (Rst (w1.setCell ⟨rb, 0, none⟩ (.slice ra rn rc)) rb ⟨0, r⟩ ∧ Fr rb w (w1.setCell ⟨rb, 0, none⟩ (.slice ra rn rc))) := ⟨HRs.out _ _ _ _ q3 q1 (fun _ => near_lt q2 HBl.out), (Fr.of_below q3).setCell (p := ⟨rb, 0, none⟩) (.inl rfl) _⟩; have k0 := (q3.cell (p := ⟨rb, 0, none⟩) hlt).trans h1; have k3 : ∀ i, w1.frozen? ⟨rb, i, none⟩ = false := fun i => (q3.frozen (p := ⟨rb, i, none⟩) hlt).trans (h3 i); have klt : rb < w1.heap.size := Nat.lt_of_lt_of_le hlt q3.size; clear q1 q2 q3))
    go_ret
    exact ⟨x, ⟨0, r⟩, ⟨rfl, HX.out⟩, HA.out, HT2.out⟩
  | error ec =>
    have hz : ec ≠ 0 := NZ.int _ _ hf
    have HC : Hid (Calls Try.prog 94 #[.slice a s.rest.length c] w fun e w' => e = .returned (.tuple #[.int .i64 0, .slice none 0 0, .int .i64 (ec : Nat)]) ∧ Below w.heap.size w w') := by
      obtain ⟨h5, h6⟩ := intE_bad hf
      exact V.readInt_err _ _ _ w HV.out h5 h6
    have HA : Hid (∀ x, After intE s x (refuseS ec ⟨s.err, []⟩)) := fun x => after_bad hf hz HN.out rfl
    have HRs : Hid (∀ w1, Below w.heap.size w w1 → Rst (w1.setCell ⟨rb, 0, none⟩ (.slice none 0 0)) rb ⟨s.err, []⟩) := fun w1 hb => (HS.out.below hb hlt).rested (V.ReadsV.nil _) (fun _ x hx => by cases hx) (fun _ => rfl)
    clear hf
    generalize s.rest.length = n at *
    generalize hse : s.err = se at *
    go_enter Try.func93, Try.ntmps93
    go_wp2_with (first
      | (go_at_call 70; have := HT; refine (HF.out ec ⟨se, []⟩ _ HT.out.1).mono ?_; rintro e w2 ⟨rfl, q1, q2⟩; have HT2 : Hid (Rst w2 rb (refuseS ec ⟨se, []⟩) ∧ Fr rb w w2) := ⟨q1, HT.out.2.trans q2⟩; clear q1 q2 HT)
      | (go_at_call 94; refine HC.out.mono ?_; rintro e w1 ⟨rfl, q1⟩; have HT : Hid (Rst (w1.setCell ⟨rb, 0, none⟩ (.slice none 0 0)) rb ⟨se, []⟩ ∧ Fr rb w (w1.setCell ⟨rb, 0, none⟩ (.slice none 0 0))) := ⟨HRs.out _ q1, (Fr.of_below q1).setCell (p := ⟨rb, 0, none⟩) (.inl rfl) _⟩; have k0 := (q1.cell (p := ⟨rb, 0, none⟩) hlt).trans h1; have k3 : ∀ i, w1.frozen? ⟨rb, i, none⟩ = false := fun i => (q1.frozen (p := ⟨rb, i, none⟩) hlt).trans (h3 i); have klt : rb < w1.heap.size := Nat.lt_of_lt_of_le hlt q1.size; clear q1))
    go_ret
    exact ⟨0, _, ⟨rfl, inR_zero⟩, HA.out _, HT2.out⟩
set_option maxRecDepth 100000 in
set_option maxHeartbeats 400000 in
theorem takeUint_any (rb : Nat) (s : Sst) (w : World) (h : Rst w rb s) : Calls Try.prog 99 #[.pointer (some ⟨rb, 0, none⟩), .func (.func 100) #[] #[]] w fun e w' => ∃ x s', (e = .returned (.int .u64 (x : Nat)) ∧ x < 18446744073709551616) ∧ After uE s x s' ∧ Rst w' rb s' ∧ Fr rb w w' := by
  have HS : Hid (Rst w rb s) := h
  obtain ⟨⟨a, c, h1, h1r, h1b⟩, h2, h3, h4⟩ := h
  have hlt : rb < w.heap.size := World.block_lt_of_cell? w _ h2
  have HV : Hid (V.ReadsV w (.slice a s.rest.length c) s.rest) := h1r
  have HBl0 : Hid (s.rest ≠ [] → ∀ x, a = some x → x.block < rb) := h1b
  have HN : Hid (s.err ≠ 0 → s.rest = []) := h4
  have HF : Hid (∀ e s1 w1, Rst w1 rb s1 → Calls Try.prog 70 #[.pointer (some ⟨rb, 0, none⟩), .int .i64 (e : Nat)] w1 fun en w' => en = .returned (.tuple #[]) ∧ Rst w' rb (refuseS e s1) ∧ Fr rb w1 w') := fun e s1 w1 q => refuse_any rb e s1 w1 q
  clear h1r h1b h4
  cases hf : uE s.rest with
  | ok xr =>
    obtain ⟨x, r⟩ := xr
    have he0 : s.err = 0 := ok_zero hf (fun y q => by cases q) HN.out
    have HA : Hid (After uE s x ⟨0, r⟩) := after_zero hf he0 rfl
    have HBl : Hid (∀ x, a = some x → x.block < rb) := HBl0.out (fun e => by rw [e] at hf; cases hf)
    have HC : Hid (Calls Try.prog 100 #[.slice a s.rest.length c] w fun e w' => ∃ ra rn rc, e = .returned (.tuple #[.int .u64 (x : Nat), .slice ra rn rc, .int .i64 0]) ∧ V.ReadsV w' (.slice ra rn rc) r ∧ V.Near (.slice a s.rest.length c) (.slice ra rn rc) ∧ Below w.heap.size w w') := by
      obtain ⟨k, hk, hx, hr⟩ := uE_rd hf
      refine (V.readUint_ok _ _ k _ w HV.out hk rfl).mono ?_
      rintro e w' ⟨ra, rc, rfl, q1, q2, q3⟩
      rw [← hr, ← hx]
      exact ⟨_, _, _, rfl, q1, q3, q2⟩
    have HX : Hid (x < 18446744073709551616) := (uE_ok hf).2
    rw [he0] at h2
    have HRs : Hid (∀ w1 ra rn rc, Below w.heap.size w w1 → V.ReadsV w1 (.slice ra rn rc) r → (r ≠ [] → ∀ y, ra = some y → y.block < rb) → Rst (w1.setCell ⟨rb, 0, none⟩ (.slice ra rn rc)) rb ⟨0, r⟩) := fun w1 ra rn rc hb q1 q2 => by
      have := (HS.out.below hb hlt).rested q1 q2 (fun q => absurd he0 q)
      rwa [he0] at this
    clear hf he0
    generalize s.rest.length = n at *
    go_enter Try.func99, Try.ntmps99
    go_wp2_with (first
      | (go_at_call 70; have := HT; refine (HF.out 0 ⟨0, r⟩ _ HT.out.1).mono ?_; rintro e w2 ⟨rfl, q1, q2⟩; have HT2 : Hid (Rst w2 rb ⟨0, r⟩ ∧ Fr rb w w2) := ⟨by have := q1; unfold refuseS at this; rwa [if_neg (by simp)] at this, HT.out.2.trans q2⟩; have HFr : Hid (Fr rb _ w2) := q2; clear q1 q2 HT)
      | (go_at_call 100; refine HC.out.mono ?_; rintro e w1 ⟨ra, rn, rc, rfl, q1, q2, q3⟩; have HT : Hid (Rst (w1.setCell ⟨rb, 0, none⟩ (.slice ra rn rc)) rb ⟨0, r⟩ ∧ Fr rb w (w1.setCell ⟨rb, 0, none⟩ (.slice ra rn rc))) := ⟨HRs.out _ _ _ _ q3 q1 (fun _ => near_lt q2 HBl.out), (Fr.of_below q3).setCell (p := ⟨rb, 0, none⟩) (.inl rfl) _⟩; have k0 := (q3.cell (p := ⟨rb, 0, none⟩) hlt).trans h1; have k3 : ∀ i, w1.frozen? ⟨rb, i, none⟩ = false := fun i => (q3.frozen (p := ⟨rb, i, none⟩) hlt).trans (h3 i); have klt : rb < w1.heap.size := Nat.lt_of_lt_of_le hlt q3.size; clear q1 q2 q3))
    go_ret
    exact ⟨x, ⟨0, r⟩, ⟨rfl, HX.out⟩, HA.out, HT2.out⟩
  | error ec =>
    have hz : ec ≠ 0 := NZ.u _ _ hf
    have HC : Hid (Calls Try.prog 100 #[.slice a s.rest.length c] w fun e w' => e = .returned (.tuple #[.int .u64 0, .slice none 0 0, .int .i64 (ec : Nat)]) ∧ Below w.heap.size w w') := by
      obtain ⟨h5, h6⟩ := uE_bad hf
      exact V.readUint_err _ _ _ w HV.out h5 h6
    have HA : Hid (∀ x, After uE s x (refuseS ec ⟨s.err, []⟩)) := fun x => after_bad hf hz HN.out rfl
    have HRs : Hid (∀ w1, Below w.heap.size w w1 → Rst (w1.setCell ⟨rb, 0, none⟩ (.slice none 0 0)) rb ⟨s.err, []⟩) := fun w1 hb => (HS.out.below hb hlt).rested (V.ReadsV.nil _) (fun _ x hx => by cases hx) (fun _ => rfl)
    clear hf
    generalize s.rest.length = n at *
    generalize hse : s.err = se at *
    go_enter Try.func99, Try.ntmps99
    go_wp2_with (first
      | (go_at_call 70; have := HT; refine (HF.out ec ⟨se, []⟩ _ HT.out.1).mono ?_; rintro e w2 ⟨rfl, q1, q2⟩; have HT2 : Hid (Rst w2 rb (refuseS ec ⟨se, []⟩) ∧ Fr rb w w2) := ⟨q1, HT.out.2.trans q2⟩; clear q1 q2 HT)
      | (go_at_call 100; refine HC.out.mono ?_; rintro e w1 ⟨rfl, q1⟩; have HT : Hid (Rst (w1.setCell ⟨rb, 0, none⟩ (.slice none 0 0)) rb ⟨se, []⟩ ∧ Fr rb w (w1.setCell ⟨rb, 0, none⟩ (.slice none 0 0))) := ⟨HRs.out _ q1, (Fr.of_below q1).setCell (p := ⟨rb, 0, none⟩) (.inl rfl) _⟩; have k0 := (q1.cell (p := ⟨rb, 0, none⟩) hlt).trans h1; have k3 : ∀ i, w1.frozen? ⟨rb, i, none⟩ = false := fun i => (q1.frozen (p := ⟨rb, i, none⟩) hlt).trans (h3 i); have klt : rb < w1.heap.size := Nat.lt_of_lt_of_le hlt q1.size; clear q1))
    go_ret
    exact ⟨0, _, ⟨rfl, by decide⟩, HA.out _, HT2.out⟩
set_option maxRecDepth 100000 in
set_option maxHeartbeats 400000 in
theorem takeBytes_any (rb : Nat) (s : Sst) (w : World) (h : Rst w rb s) : Calls Try.prog 97 #[.pointer (some ⟨rb, 0, none⟩), .func (.func 98) #[] #[]] w fun e w' => ∃ x s', (∃ sa sn sc, e = .returned (.slice sa sn sc) ∧ V.ReadsV w' (.slice sa sn sc) x) ∧ After textE s x s' ∧ Rst w' rb s' ∧ Fr rb w w' := by
  have HS : Hid (Rst w rb s) := h
  obtain ⟨⟨a, c, h1, h1r, h1b⟩, h2, h3, h4⟩ := h
  have hlt : rb < w.heap.size := World.block_lt_of_cell? w _ h2
  have HV : Hid (V.ReadsV w (.slice a s.rest.length c) s.rest) := h1r
  have HBl0 : Hid (s.rest ≠ [] → ∀ x, a = some x → x.block < rb) := h1b
  have HN : Hid (s.err ≠ 0 → s.rest = []) := h4
  have HF : Hid (∀ e s1 w1, Rst w1 rb s1 → Calls Try.prog 70 #[.pointer (some ⟨rb, 0, none⟩), .int .i64 (e : Nat)] w1 fun en w' => en = .returned (.tuple #[]) ∧ Rst w' rb (refuseS e s1) ∧ Fr rb w1 w') := fun e s1 w1 q => refuse_any rb e s1 w1 q
  clear h1r h1b h4
  cases hf : textE s.rest with
  | ok xr =>
    obtain ⟨x, r⟩ := xr
    have he0 : s.err = 0 := ok_zero hf (fun y q => by cases q) HN.out
    have HA : Hid (After textE s x ⟨0, r⟩) := after_zero hf he0 rfl
    have HBl : Hid (∀ x, a = some x → x.block < rb) := HBl0.out (fun e => by rw [e] at hf; cases hf)
    have HC : Hid (Calls Try.prog 98 #[.slice a s.rest.length c] w fun e w' => ∃ sa sn sc ra rn rc, e = .returned (.tuple #[.slice sa sn sc, .slice ra rn rc, .int .i64 0]) ∧ V.ReadsV w' (.slice ra rn rc) r ∧ V.Near (.slice a s.rest.length c) (.slice ra rn rc) ∧ Below w.heap.size w w' ∧ V.ReadsV w' (.slice sa sn sc) x ∧ V.Near (.slice a s.rest.length c) (.slice sa sn sc)) := by
      obtain ⟨k, hk, hm, hx, hr⟩ := textE_rd hf
      refine (readBytes_near _ _ k _ w HV.out hk rfl hm).mono ?_
      rw [hx, hr]
      rintro e w' ⟨sv, rv, rfl, q1, q2, q3, q4, q5⟩
      have q1' := q1
      have q2' := q2
      obtain ⟨sa, sc, rfl, _⟩ := q1'
      obtain ⟨ra, rc, rfl, _⟩ := q2'
      exact ⟨_, _, _, _, _, _, rfl, q2, q4, q3, q1, q5⟩
    rw [he0] at h2
    have HRs : Hid (∀ w1 ra rn rc, Below w.heap.size w w1 → V.ReadsV w1 (.slice ra rn rc) r → (r ≠ [] → ∀ y, ra = some y → y.block < rb) → Rst (w1.setCell ⟨rb, 0, none⟩ (.slice ra rn rc)) rb ⟨0, r⟩) := fun w1 ra rn rc hb q1 q2 => by
      have := (HS.out.below hb hlt).rested q1 q2 (fun q => absurd he0 q)
      rwa [he0] at this
    clear hf he0
    generalize s.rest.length = n at *
    go_enter Try.func97, Try.ntmps97
    go_wp2_with (first
      | (go_at_call 70; have := HT; refine (HF.out 0 ⟨0, r⟩ _ HT.out.1).mono ?_; rintro e w2 ⟨rfl, q1, q2⟩; have HT2 : Hid (Rst w2 rb ⟨0, r⟩ ∧ Fr rb w w2) := ⟨by have := q1; unfold refuseS at this; rwa [if_neg (by simp)] at this, HT.out.2.trans q2⟩; have HFr : Hid (Fr rb _ w2) := q2; clear q1 q2 HT)
      | (go_at_call 98; refine HC.out.mono ?_; rintro e w1 ⟨sa, sn, sc, ra, rn, rc, rfl, q1, q2, q3, q4, q5⟩; have HT : Hid (Rst (w1.setCell ⟨rb, 0, none⟩ (.slice ra rn rc)) rb ⟨0, r⟩ ∧ Fr rb w (w1.setCell ⟨rb, 0, none⟩ (.slice ra rn rc))) := ⟨HRs.out _ _ _ _ q3 q1 (fun _ => near_lt q2 HBl.out), (Fr.of_below q3).setCell (p := ⟨rb, 0, none⟩) (.inl rfl) _⟩; have HX : Hid (V.ReadsV w1 (.slice sa sn sc) x ∧ ∀ y, sa = some y → y.block < rb) := ⟨q4, near_lt q5 HBl.out⟩; have k0 := (q3.cell (p := ⟨rb, 0, none⟩) hlt).trans h1; have k3 : ∀ i, w1.frozen? ⟨rb, i, none⟩ = false := fun i => (q3.frozen (p := ⟨rb, i, none⟩) hlt).trans (h3 i); have klt : rb < w1.heap.size := Nat.lt_of_lt_of_le hlt q3.size; clear q1 q2 q3 q4 q5))
    go_ret
    exact ⟨x, ⟨0, r⟩, ⟨_, _, _, rfl, readsV_kept HX.out.1 fun _ y hy => by have hl := HX.out.2 y hy; rw [HFr.out.block y.block (by simp [World.setCell]; omega) (by omega), Below.heap_setCell _ _ _ _ (by show y.block ≠ rb; omega)]⟩, HA.out, HT2.out⟩
  | error ec =>
    have hz : ec ≠ 0 := NZ.text _ _ hf
    have HC : Hid (Calls Try.prog 98 #[.slice a s.rest.length c] w fun e w' => e = .returned (.tuple #[.slice none 0 0, .slice none 0 0, .int .i64 (ec : Nat)]) ∧ Below w.heap.size w w') := by
      rcases textE_bad hf with ⟨h5, h6⟩ | ⟨rfl, k, hk, h6⟩
      · exact V.readBytes_err _ _ _ w HV.out h5 h6
      · exact V.readBytes_short _ _ k _ w HV.out hk rfl h6
    have HA : Hid (∀ x, After textE s x (refuseS ec ⟨s.err, []⟩)) := fun x => after_bad hf hz HN.out rfl
    have HRs : Hid (∀ w1, Below w.heap.size w w1 → Rst (w1.setCell ⟨rb, 0, none⟩ (.slice none 0 0)) rb ⟨s.err, []⟩) := fun w1 hb => (HS.out.below hb hlt).rested (V.ReadsV.nil _) (fun _ x hx => by cases hx) (fun _ => rfl)
    clear hf
    generalize s.rest.length = n at *
    generalize hse : s.err = se at *
    go_enter Try.func97, Try.ntmps97
    go_wp2_with (first
      | (go_at_call 70; have := HT; refine (HF.out ec ⟨se, []⟩ _ HT.out.1).mono ?_; rintro e w2 ⟨rfl, q1, q2⟩; have HT2 : Hid (Rst w2 rb (refuseS ec ⟨se, []⟩) ∧ Fr rb w w2) := ⟨q1, HT.out.2.trans q2⟩; clear q1 q2 HT)
      | (go_at_call 98; refine HC.out.mono ?_; rintro e w1 ⟨rfl, q1⟩; have HT : Hid (Rst (w1.setCell ⟨rb, 0, none⟩ (.slice none 0 0)) rb ⟨se, []⟩ ∧ Fr rb w (w1.setCell ⟨rb, 0, none⟩ (.slice none 0 0))) := ⟨HRs.out _ q1, (Fr.of_below q1).setCell (p := ⟨rb, 0, none⟩) (.inl rfl) _⟩; have k0 := (q1.cell (p := ⟨rb, 0, none⟩) hlt).trans h1; have k3 : ∀ i, w1.frozen? ⟨rb, i, none⟩ = false := fun i => (q1.frozen (p := ⟨rb, i, none⟩) hlt).trans (h3 i); have klt : rb < w1.heap.size := Nat.lt_of_lt_of_le hlt q1.size; clear q1))
    go_ret
    exact ⟨[], _, ⟨_, _, _, rfl, V.ReadsV.nil _⟩, HA.out _, HT2.out⟩
theorem takeByte_det (rb : Nat) (s : Sst) (w : World) (h : Rst w rb s) : Calls Try.prog 91 #[.pointer (some ⟨rb, 0, none⟩), .func (.func 92) #[] #[]] w fun e w' => e = .returned (.int .u8 (hdS s : Nat)) ∧ Rst w' rb (tlS s) ∧ Fr rb w w' := by
  refine (takeByte_any rb s w h).mono ?_
  rintro e w' ⟨x, s', ⟨rfl, rfl, rfl⟩, _, q1, q2⟩
  exact ⟨rfl, q1, q2⟩
theorem after_byte {s : Sst} (h : s.err ≠ 0 → s.rest = []) : After byteE s (hdS s) (tlS s) := by
  by_cases he : s.err = 0
  · cases hf : byteE s.rest with
    | ok xr =>
      obtain ⟨x, r⟩ := xr
      obtain ⟨e1, e2⟩ := hd_ok hf he
      rw [← e1, ← e2]
      exact after_zero hf he rfl
    | error e =>
      obtain ⟨e1, e2⟩ := hd_bad hf
      exact after_bad hf (NZ.byte _ _ hf) h e2.symm
  · obtain ⟨e1, e2⟩ := hd_err h he
    rw [e2]
    unfold After
    rw [if_pos he]
set_option maxRecDepth 100000 in
theorem number_any (rb most : Nat) (s : Sst) (w : World) (hm : most ≤ 1000000) (h : Rst w rb s) : Calls Try.prog 80 #[.pointer (some ⟨rb, 0, none⟩), .int .u64 most] w fun e w' => ∃ x s', (e = .returned (.int .i64 (x : Nat)) ∧ x ≤ most) ∧ After (uintE most) s x s' ∧ Rst w' rb s' ∧ Fr rb w w' := by
  have HT : Hid (Calls Try.prog 99 #[.pointer (some ⟨rb, 0, none⟩), .func (.func 100) #[] #[]] w fun e w' => ∃ x s', (e = .returned (.int .u64 (x : Nat)) ∧ x < 18446744073709551616) ∧ After uE s x s' ∧ Rst w' rb s' ∧ Fr rb w w') := takeUint_any rb s w h
  have HF : Hid (∀ e s1 w1, Rst w1 rb s1 → Calls Try.prog 70 #[.pointer (some ⟨rb, 0, none⟩), .int .i64 (e : Nat)] w1 fun en w' => en = .returned (.tuple #[]) ∧ Rst w' rb (refuseS e s1) ∧ Fr rb w1 w') := fun e s1 w1 q => refuse_any rb e s1 w1 q
  have HA : Hid (∀ x s1, After uE s x s1 → most < x → After (uintE most) s 0 (refuseS 6 s1)) := fun x s1 q hx => q.bind (by rw [if_pos hx]; exact After.fail (by decide) _ _)
  have HB : Hid (∀ x s1, After uE s x s1 → ¬ most < x → After (uintE most) s x s1) := fun x s1 q hx => q.bind (by rw [if_neg hx]; exact After.pure _ _)
  clear h
  go_enter Try.func80, Try.ntmps80
  go_wp2_with (first
    | (go_at_call 70; have := HX; refine (HF.out 6 _ _ HX.out.2.1).mono ?_; rintro e w2 ⟨rfl, q1, q2⟩; have HX2 : Hid (After uE s x s1 ∧ Rst w2 rb (refuseS 6 s1) ∧ Fr rb w w2) := ⟨HX.out.1, q1, HX.out.2.2.trans q2⟩; clear q1 q2 HX)
    | (go_at_call 99; refine HT.out.mono ?_; rintro e w1 ⟨x, s1, ⟨rfl, hx⟩, q1, q2, q3⟩; have HX : Hid (After uE s x s1 ∧ Rst w1 rb s1 ∧ Fr rb w w1) := ⟨q1, q2, q3⟩; clear q1 q2 q3))
  · go_ret
    exact ⟨0, _, ⟨rfl, Nat.zero_le _⟩, HA.out _ _ HX2.out.1 (by omega), HX2.out.2⟩
  · go_ret
    exact ⟨x, _, ⟨rfl, by omega⟩, HB.out _ _ HX.out.1 (by omega), HX.out.2⟩
theorem reads_len {w : World} {v : Value} {l : BB} (h : V.ReadsV w v l) : l.length ≤ 9223372036854775807 := by
  obtain ⟨_, _, _, _, _, _, hq⟩ := h
  have := hq.1
  rw [V.maxLen_eq] at this
  exact this
theorem str_bn (l : BB) : V.str l = ba (bn l) := rfl
set_option maxRecDepth 100000 in
theorem text_any (rb : Nat) (s : Sst) (w : World) (h : Rst w rb s) : Calls Try.prog 79 #[.pointer (some ⟨rb, 0, none⟩)] w fun e w' => ∃ x s', e = .returned (.string (ba (bn x))) ∧ x.length ≤ 9223372036854775807 ∧ After textE s x s' ∧ Rst w' rb s' ∧ Fr rb w w' := by
  have HT : Hid (Calls Try.prog 97 #[.pointer (some ⟨rb, 0, none⟩), .func (.func 98) #[] #[]] w fun e w' => ∃ x s', (∃ sa sn sc, e = .returned (.slice sa sn sc) ∧ V.ReadsV w' (.slice sa sn sc) x) ∧ After textE s x s' ∧ Rst w' rb s' ∧ Fr rb w w') := takeBytes_any rb s w h
  clear h
  go_enter Try.func79, Try.ntmps79
  go_wp2_with (go_at_call 97; refine HT.out.mono ?_; rintro e w1 ⟨x, s1, ⟨sa, sn, sc, rfl, hr⟩, q1, q2, q3⟩; have HX : Hid (After textE s x s1 ∧ Rst w1 rb s1 ∧ Fr rb w w1) := ⟨q1, q2, q3⟩; have hcv : (convert 32 9 (.slice sa sn sc)).run Try.prog w1 = .ok (.string (V.str x)) w1 := V.convert_str hr; have HL : Hid (x.length ≤ 9223372036854775807) := reads_len hr; clear q1 q2 q3 hr)
  go_ret
  exact ⟨x, _, rfl, HL.out, HX.out⟩
end Go.Proofs.Ytjafjheffbbkmaa
