/-
  The program's Put: a contract.
-/
import Derived.Test.YtccccclnfimcoaaGrow
import Derived.Test.YtccccclnfimcoaaWalks
import Derived.Deep.RegionHeld3
namespace Go.Proofs.Ytccccclnfimcoaa
open Go.RowKit Crc
set_option linter.unusedVariables false

/-- 'copy(dst, src)' as one step of a region that draws its order: no other block turns. -/
theorem step_copy_bytes {P : Program} {w : World} {ops : Array Oper} {o : Oper} {a : Act} {K : Act → World → Prop} {Q : Exit → Act → World → Prop} {E : Prop} (hgd : o.guard = none) (d s : Operand) (t : TypeId)
    (ho : o.op = .call { callee := .builtin .copy, args := #[d, s], argTypes := #[t, t] }) (hu : P.underlying t = some (.slice 5)) (hinfo : (P.info? 5).map (fun i => (i.zero, i.size, i.bytes)) = some (some (.int .u8 0), 1, 1))
    (dp : Option Addr) (dLen dCap : Nat) (hd : a.eval d = .slice dp dLen dCap) (x : Value) (hs : a.eval s = x) (l : List (BitVec 8)) (hr : ReadsV w x l) (hp : 0 < l.length) (hl : l.length ≤ dLen)
    (g off : Nat) (hdp : dp = some ⟨g, off, none⟩) (cur : List Value) (hg : w.heap[g]? = some (.cells cur.toArray 5 (0, 0))) (hfit : off + l.length ≤ cur.length)
    (h : ∀ w', Hid (w'.heap[g]? = some (.cells (splice cur off (bytesV l)).toArray 5 (0, 0))) → w.grownBy w' (some g) → K (a.put o.dst (goInt l.length)) w') :
    if Region.wanted o (yielded ops a.tmps) = true then Oper.wp P o a w K Q else E := by
  have hw : Region.wanted o (yielded ops a.tmps) = true := by simp [Region.wanted, hgd]
  rw [if_pos hw]
  obtain ⟨sp, sCap, rfl, hnil, _, _, hrd⟩ := hr
  have hsz : (P.info? 5).map (·.size) = some 1 := by
    obtain ⟨i, hi, _, h1, _⟩ := info_parts hinfo
    rw [hi]; simp [h1]
  subst hdp
  rcases hrd.2 with h0 | ⟨b, off2, rfl, hc⟩
  · subst h0; simp at hp
  · have hlen := bytesV_length l
    have hrun := run_copy_row (P := P) w t t o.type 5 g off dLen dCap ⟨b, off2, none⟩ l.length sCap cur.toArray 5 (bytesV l) hu hsz hg (by rw [hlen]; exact (Nat.min_eq_left hl).symm) (fun j v hj => by
      obtain ⟨hj1, rfl⟩ := bytesV_getElem hj
      rw [add_plain]; exact hc j hj1) (by rw [hlen]; simpa using hfit) bytesV_one
    unfold Oper.wp
    simp [execOp, ho, resolve, invoke, builtin, hd, hs, hrun, Result.andThen, hlen]
    refine h _ (show _ = _ by simpa [splice, hlen] using setRow_heap w g _ _ 5 _ hg) ⟨rfl, rfl, rfl, by simp [World.setRow], fun k _ hk => setRow_other w g k _ (fun e => hk (by rw [e]))⟩

theorem W_len {n : Nat} (h : n < 4294967296) : (n : Int) = W (BitVec.ofNat 32 n) := by
  unfold W; rw [BitVec.toNat_ofNat]; omega
theorem bytesOf_ex (x : Int) (s : BitVec 32) (w : World) (hx : x = W s) : Calls Try.prog 20 #[.int .u32 x] w fun e w' => ∃ x0 x1 x2 x3, e = .returned (.agg #[.int .u8 (B x0), .int .u8 (B x1), .int .u8 (B x2), .int .u8 (B x3)]) ∧ [x0, x1, x2, x3] = four s ∧ Below w.heap.size w w' := by
  subst hx
  exact (bytesOf_any s w).mono fun e w' ⟨he, hB⟩ => ⟨_, _, _, _, he, rfl, hB⟩
theorem quad_new (w : World) (x0 x1 x2 x3 : BitVec 8) (e : TypeId) : ReadsV (w.alloc (.cells #[.int .u8 (B x0), .int .u8 (B x1), .int .u8 (B x2), .int .u8 (B x3)] e)) (.slice (some ⟨w.heap.size, 0, none⟩) 4 4) [x0, x1, x2, x3] := by
  refine ⟨_, 4, rfl, (fun h => by cases h), Nat.le_refl _, by unfold maxLen; omega, by unfold maxLen; simp, .inr ⟨w.heap.size, 0, rfl, fun i hi => ?_⟩⟩
  rw [Nat.zero_add, cell_of_row _ w.heap.size i _ e (0, 0) (heap_alloc_new w _)]
  match i, hi with
  | 0, _ | 1, _ | 2, _ | 3, _ => rfl

theorem splice_three {cur L F U S : List Value} {n : Nat} (hL : L.length = n) (hF : F.length = 4) (hU : U.length = 4) (h : cur.take n = L) (hc : n + 8 + S.length ≤ cur.length) :
    (splice (splice (splice cur (n + 8) S) n F) (n + 4) U).take (n + 8 + S.length) = L ++ (F ++ (U ++ S)) := by
  have hlen : n ≤ cur.length := by omega
  have a1 : (splice cur (n + 8) S).take n = L := by
    unfold splice
    rw [List.take_append_of_le_length (by simp; omega), List.take_take, Nat.min_eq_left (by omega), h]
  have a2 : (splice cur (n + 8) S).drop (n + 8) = S ++ cur.drop (n + 8 + S.length) := by
    unfold splice
    exact List.drop_left' (by simp only [List.length_take]; omega)
  have b : splice (splice cur (n + 8) S) n F = L ++ (F ++ (splice cur (n + 8) S).drop (n + 4)) := by
    show (splice cur (n + 8) S).take n ++ (F ++ (splice cur (n + 8) S).drop (n + F.length)) = _
    rw [a1, hF]
  have b1 : (splice (splice cur (n + 8) S) n F).take (n + 4) = L ++ F := by
    rw [b, ← List.append_assoc]
    exact List.take_left' (by simp [hL, hF])
  have b2 : (splice (splice cur (n + 8) S) n F).drop (n + 8) = S ++ cur.drop (n + 8 + S.length) := by
    rw [b, ← List.append_assoc, List.drop_append, List.drop_of_length_le (by simp [hL, hF]), List.nil_append, List.drop_drop, List.length_append, hL, hF, ← a2]
    congr 1
    omega
  have c : splice (splice (splice cur (n + 8) S) n F) (n + 4) U = (L ++ (F ++ (U ++ S))) ++ cur.drop (n + 8 + S.length) := by
    show (splice (splice cur (n + 8) S) n F).take (n + 4) ++ (U ++ (splice (splice cur (n + 8) S) n F).drop (n + 4 + U.length)) = _
    rw [b1, hU, show n + 4 + 4 = n + 8 by omega, b2]; simp
  rw [c]
  exact List.take_left' (by simp [hL, hF, hU]; omega)

theorem own_put {w : World} {base g C L n : Nat} {cur : List Value} {l s f u : Row} (hl : l.length = L) (hs : s.length = n) (hb : base ≤ g) (hC : L + (8 + n) ≤ C) (hC2 : C ≤ 9223372036854775807) (hcl : cur.length = C) (hct : cur.take L = bytesV l) (hf : f.length = 4) (hu : u.length = 4)
    (hh : w.heap[g]? = some (.cells (splice (splice (splice cur (L + 8) (bytesV s)) L (bytesV f)) (L + 4) (bytesV u)).toArray 5 (0, 0))) : Owns w base (.slice (some ⟨g, 0, none⟩) (L + 8 + n) C) (l ++ (f ++ (u ++ s))) := by
  subst hl hs
  have h1 := splice_three (cur := cur) (L := bytesV l) (F := bytesV f) (U := bytesV u) (S := bytesV s) (n := l.length) (bytesV_length l) (by rw [bytesV_length, hf]) (by rw [bytesV_length, hu]) hct (by rw [bytesV_length]; omega)
  rw [bytesV_length] at h1
  have hlen : (splice (splice (splice cur (l.length + 8) (bytesV s)) l.length (bytesV f)) (l.length + 4) (bytesV u)).length = C := by
    have e1 : (splice cur (l.length + 8) (bytesV s)).length = C := by rw [length_splice _ _ _ (by rw [bytesV_length]; omega), hcl]
    have e2 : (splice (splice cur (l.length + 8) (bytesV s)) l.length (bytesV f)).length = C := by rw [length_splice _ _ _ (by rw [bytesV_length, e1]; omega), e1]
    rw [length_splice _ _ _ (by rw [bytesV_length, e2]; omega), e2]
  have hL : (l ++ (f ++ (u ++ s))).length = l.length + 8 + s.length := by simp [hf, hu]; omega
  refine ⟨by simp [bytesV_length], .inr ⟨g, C, _, by rw [hL], hb, hh, by omega, by rw [maxLen_eq]; exact hC2, by simpa using hlen, ?_⟩⟩
  rw [Nat.mul_one, hL]
  show (splice (splice (splice cur (l.length + 8) (bytesV s)) l.length (bytesV f)) (l.length + 4) (bytesV u)).take _ = _
  rw [h1, ← bytesV_append, ← bytesV_append, ← bytesV_append]

theorem grow_eq (x : Int) (base : Nat) (a : Option Addr) (n c d : Nat) (l : List (BitVec 8)) (w : World) (hx : x = (d : Int)) (ho : Owns w base (.slice a n c) l) (hb : base ≤ w.heap.size) (hd : 0 < d) (hsmall : n + d ≤ 100000000000000) :
    Calls Try.prog 22 #[.slice a n c, .int .i64 x] w fun e w' => ∃ g C cur, e = .returned (.slice (some ⟨g, 0, none⟩) n C) ∧ n + d ≤ C ∧ C ≤ 9223372036854775807 ∧ base ≤ g ∧ (g < w.heap.size → a = some ⟨g, 0, none⟩) ∧
      w'.heap[g]? = some (.cells (List.toArray cur) 5 (0, 0)) ∧ cur.length = C ∧ cur.take n = bytesV l ∧ Below w.heap.size w w' := by
  subst hx; exact grow_own base a n c d l w ho hb hd hsmall

theorem below_three {w w4 w5 w6 w7 : World} {base g : Nat} (h : Below base w w4) (hb : base ≤ w.heap.size) (h5 : w4.grownBy w5 (some g)) (h6 : w5.grownBy w6 (some g)) (h7 : w6.grownBy w7 (some g)) (hg : base ≤ g) : Below base w w7 := by
  have k : ∀ {a b : World}, Below base w a → a.grownBy b (some g) → Below base w b := fun ha hab => ha.grown hab (Nat.le_trans hb ha.size) (fun k hk => by cases hk; exact hg)
  exact k (k (k h h5) h6) h7
theorem kept_three {w w4 w5 w6 w7 : World} {g : Nat} {o : Option Nat} (h : ∀ k, k < w.heap.size → o ≠ some k → k ≠ g ∧ w4.heap[k]? = w.heap[k]?) (hs : w.heap.size ≤ w4.heap.size) (h5 : w4.grownBy w5 (some g)) (h6 : w5.grownBy w6 (some g)) (h7 : w6.grownBy w7 (some g)) : ∀ k, k < w.heap.size → o ≠ some k → w7.heap[k]? = w.heap[k]? := by
  intro k hk hne
  obtain ⟨h1, h2⟩ := h k hk hne
  have n1 : some k ≠ some g := fun e => h1 (Option.some.inj e)
  have s5 := h5.size
  have s6 := h6.size
  exact ((h7.block k (by omega) n1).trans ((h6.block k (by omega) n1).trans (h5.block k (by omega) n1))).trans h2
theorem grown_drew {w w' : World} {r : Option Nat} (h : w.drew.grownBy w' r) : w.grownBy w' r := ⟨h.os, h.tape, h.output, h.size, h.block⟩

/-- A row of the call's own is not a block that is newer. -/
theorem row_old {w w1 : World} {base g g1 L c : Nat} {a : Option Addr} {l : Row} (ho : Owns w base (.slice a L c) l) (hg1 : w.heap.size ≤ g1) (hlt : g1 < w1.heap.size) (hg : g < w1.heap.size → a = some ⟨g, 0, none⟩) : g1 ≠ g := by
  rintro rfl
  have ha := hg hlt
  subst ha
  have := (World.ownsRow.lt ho g1 rfl).2
  omega

theorem put_mid {w w1 w3 : World} (oA oB : Obj) {base L c n sc : Nat} {a sa : Option Addr} {l s q : Row} {g4 : Addr} (HO : Owns w base (.slice a L c) l) (HS : ReadsV w (.slice sa n sc) s) (HB : base ≤ w.heap.size) (h1 : Below w.heap.size w w1) (hq : ReadsV (w1.alloc oA) (.slice (some g4) 4 4) q) (h3 : Below (w1.alloc oA).heap.size (w1.alloc oA) w3) :
    ReadsV (w3.alloc oB) (.slice (some g4) 4 4) q ∧ ReadsV (w3.alloc oB) (.slice sa n sc) s ∧ Owns (w3.alloc oB) base (.slice a L c) l ∧ base ≤ (w3.alloc oB).heap.size ∧ Below w.heap.size w (w3.alloc oB) ∧ w1.heap.size < w3.heap.size ∧ w.heap.size ≤ w1.heap.size ∧ w3.heap.size < (w3.alloc oB).heap.size := by
  have e1 : (w1.alloc oA).heap.size = w1.heap.size + 1 := by show (w1.heap.push oA).size = _; rw [Array.size_push]
  have e3 : (w3.alloc oB).heap.size = w3.heap.size + 1 := by show (w3.heap.push oB).size = _; rw [Array.size_push]
  have s1 := h1.size
  have s3 := h3.size
  have hA : Below w.heap.size w (w1.alloc oA) := h1.alloc s1 _
  have h13 : Below w.heap.size w w3 := hA.trans (h3.mono (by omega))
  have hAll : Below w.heap.size w (w3.alloc oB) := h13.alloc h13.size _
  refine ⟨hq.below (h3.alloc s3 _), HS.below hAll, HO.below hAll, by omega, hAll, by omega, s1, by omega⟩

theorem put_grown {w w1 wB w4 : World} {base L c n sc g b3 : Nat} {a sa : Option Addr} {l s q r : Row} (HO : Owns w base (.slice a L c) l) (hb : base ≤ w.heap.size) (h1 : w.heap.size ≤ w1.heap.size) (h13 : w1.heap.size < b3) (h3 : b3 < wB.heap.size) (hB : Below w.heap.size w wB) (hq : ReadsV wB (.slice (some ⟨w1.heap.size, 0, none⟩) 4 4) q) (hr : ReadsV wB (.slice (some ⟨b3, 0, none⟩) 4 4) r) (hs : ReadsV wB (.slice sa n sc) s)
    (hgl : g < wB.heap.size → a = some ⟨g, 0, none⟩) (h4 : Below wB.heap.size wB w4) :
    w1.heap.size ≠ g ∧ b3 ≠ g ∧ ReadsV w4 (.slice (some ⟨w1.heap.size, 0, none⟩) 4 4) q ∧ ReadsV w4 (.slice (some ⟨b3, 0, none⟩) 4 4) r ∧ ReadsV w4 (.slice sa n sc) s ∧ Below base w w4 ∧ ∀ k, k < w.heap.size → (Value.slice a L c).ownBlock ≠ some k → k ≠ g ∧ w4.heap[k]? = w.heap[k]? := by
  refine ⟨row_old HO h1 (by omega) hgl, row_old HO (by omega) h3 hgl, hq.below h4, hr.below h4, hs.below h4, (hB.mono hb).trans (h4.mono (by have := hB.size; omega)), fun k hk hne => ⟨?_, ?_⟩⟩
  · rintro rfl
    have := hB.size
    rw [hgl (by omega)] at hne
    exact hne rfl
  · have := hB.size
    exact (h4.block k (by omega)).trans (hB.block k hk)

set_option maxRecDepth 100000 in
set_option maxHeartbeats 1000000 in
theorem put_walk (base : Nat) (a sa : Option Addr) (L c n sc : Nat) (l s : Row) (w : World) (HO : Hid (Owns w base (.slice a L c) l)) (HS : Hid (ReadsV w (.slice sa n sc) s)) (HL : Hid (l.length = L)) (HN : Hid (s.length = n))
    (HB : Hid (base ≤ w.heap.size)) (hL : L ≤ 1000000000) (hn : n ≤ 1000000000) :
    Calls Try.prog 12 #[.slice a L c, .slice sa n sc] w fun e w' => ∃ v', e = .returned v' ∧ Owns w' base v' (l ++ recd s) ∧ Below base w w' ∧ ∀ k, k < w.heap.size → (Value.slice a L c).ownBlock ≠ some k → w'.heap[k]? = w.heap[k]? := by
  have HX : Hid ((n : Int) = W (BitVec.ofNat 32 n)) := W_len (by omega)
  go_enter Try.func12, Try.ntmps12
  go_wp2_with (first
    | (have := HH; refine wpList_copy_bytes rfl (.tmp 32) (.tmp 33) 22 rfl Try.underlying22 Try.info5 _ _ _ rfl _ rfl s H4.out.2.2.2.2.2.2.2.1 (by rw [HN.out]; omega) g (L + 8) (by rw [HN.out]; intro hpos; first | (rw [← hj]; exact if_neg (by omega)) | exact if_neg (by omega)) cur HH.out (by rw [HN.out, H4.out.2.1]; omega) ?_; intro w5 HH3 hw5; rw [hj]; have HW5 : Hid (w4.grownBy w5 (some g)) := hw5; clear hw5 HH hj)
    | (go_at_call 22; (have := H3; refine (grow_eq _ base a L c (8 + n) l _ (by omega) H3.out.2.2.2.1 H3.out.2.2.2.2.1 (by omega) (by omega)).mono ?_; rintro e w4 ⟨g, C, cur, rfl, hC1, hC2, hbg, hgl, hh, hcl, hct, hB⟩; have H4 : Hid (base ≤ g ∧ cur.length = C ∧ cur.take L = bytesV l ∧ w1.heap.size ≠ g ∧ w3.heap.size ≠ g ∧ ReadsV w4 (.slice (some ⟨w1.heap.size, 0, none⟩) 4 4) [x0, x1, x2, x3] ∧ ReadsV w4 (.slice (some ⟨w3.heap.size, 0, none⟩) 4 4) [y0, y1, y2, y3] ∧ ReadsV w4 (.slice sa n sc) s ∧ Below base w w4 ∧ ∀ k, k < w.heap.size → (Value.slice a L c).ownBlock ≠ some k → k ≠ g ∧ w4.heap[k]? = w.heap[k]?) := ⟨hbg, hcl, hct, put_grown HO.out HB.out H3.out.2.2.2.2.2.2.2.1 H3.out.2.2.2.2.2.2.1 H3.out.2.2.2.2.2.2.2.2 H3.out.2.2.2.2.2.1 H3.out.2.1 HY.out H3.out.2.2.1 hgl hB⟩; have HH : Hid (w4.heap[g]? = some (.cells (List.toArray cur) 5 (0, 0))) := hh; obtain ⟨junk, hj⟩ : ∃ junk, (if C = L + 8 then some (⟨g, 0, none⟩ : Addr) else some ⟨g, L + 8, none⟩) = junk := ⟨_, rfl⟩; clear hbg hgl hh hcl hct hB))
    | (go_at_call 20; have := H2; refine (bytesOf_ex _ _ _ rfl).mono ?_; rintro e w3 ⟨y0, y1, y2, y3, rfl, hy, hB⟩; have H3 : Hid ([y0, y1, y2, y3] = four (sum ([x0, x1, x2, x3] ++ s)) ∧ ReadsV (w3.alloc (.cells #[.int .u8 (B y0), .int .u8 (B y1), .int .u8 (B y2), .int .u8 (B y3)] 40)) (.slice (some ⟨w1.heap.size, 0, none⟩) 4 4) [x0, x1, x2, x3] ∧ ReadsV (w3.alloc (.cells #[.int .u8 (B y0), .int .u8 (B y1), .int .u8 (B y2), .int .u8 (B y3)] 40)) (.slice sa n sc) s ∧ Owns (w3.alloc (.cells #[.int .u8 (B y0), .int .u8 (B y1), .int .u8 (B y2), .int .u8 (B y3)] 40)) base (.slice a L c) l ∧ base ≤ (w3.alloc (.cells #[.int .u8 (B y0), .int .u8 (B y1), .int .u8 (B y2), .int .u8 (B y3)] 40)).heap.size ∧ Below w.heap.size w (w3.alloc (.cells #[.int .u8 (B y0), .int .u8 (B y1), .int .u8 (B y2), .int .u8 (B y3)] 40)) ∧ w1.heap.size < w3.heap.size ∧ w.heap.size ≤ w1.heap.size ∧ w3.heap.size < (w3.alloc (.cells #[.int .u8 (B y0), .int .u8 (B y1), .int .u8 (B y2), .int .u8 (B y3)] 40)).heap.size) := ⟨hy, (put_mid _ _ HO.out HS.out HB.out H1.out.2 (quad_new w1 x0 x1 x2 x3 40) hB)⟩; have HY : Hid (ReadsV (w3.alloc (.cells #[.int .u8 (B y0), .int .u8 (B y1), .int .u8 (B y2), .int .u8 (B y3)] 40)) (.slice (some ⟨w3.heap.size, 0, none⟩) 4 4) [y0, y1, y2, y3]) := quad_new w3 y0 y1 y2 y3 40; clear hy hB)
    | (go_at_call 21; have := H1; refine (sumOf_any _ _ [x0, x1, x2, x3] s _ (quad_new w1 x0 x1 x2 x3 40) (HS.out.below (H1.out.2.alloc (H1.out.2.size) _))).mono ?_; rintro e w2 ⟨rfl, hw⟩; have hw2 := hw.symm; clear hw; subst hw2; have H2 : Hid True := trivial)
    | (go_at_call 20; refine (bytesOf_ex _ _ _ HX.out).mono ?_; rintro e w1 ⟨x0, x1, x2, x3, rfl, hx, hB⟩; have H1 : Hid ([x0, x1, x2, x3] = size4 s ∧ Below w.heap.size w w1) := ⟨by unfold size4; rw [HN.out]; exact hx, hB⟩; clear hx hB))
  all_goals
    have HLen : Hid ((splice cur (L + 8) (bytesV s)).length = cur.length) := length_splice _ _ _ (by rw [bytesV_length, HN.out, H4.out.2.1]; omega)
    have R5 : Hid (ReadsV w5 (.slice (some ⟨w1.heap.size, 0, none⟩) 4 4) [x0, x1, x2, x3] ∧ ReadsV w5 (.slice (some ⟨w3.heap.size, 0, none⟩) 4 4) [y0, y1, y2, y3]) := ⟨H4.out.2.2.2.2.2.1.grown HW5.out H4.out.2.2.2.1, H4.out.2.2.2.2.2.2.1.grown HW5.out H4.out.2.2.2.2.1⟩
    have q1 : (L : Int) ≤ (L : Int) + 8 + (n : Int) := by omega
    have q2 : (L : Int) + 4 ≤ (L : Int) + 8 + (n : Int) := by omega
    have q5 : IntKind.i64.wrap ((L : Int) + 4) = (L : Int) + 4 := by rw [IntKind.wrap_i64]; omega
    have q6 : (0 : Int) ≤ (L : Int) + 4 := by omega
    have q7 : ((L : Int) + 4).toNat = L + 4 := by omega
    have q3 : ¬ C = L := by omega
    have q4 : ¬ C = L + 4 := by omega
    go_region_held3 (fun w' => True) (go_keep) (first | (refine step_copy_bytes rfl (.tmp 38) (.tmp 39) 22 rfl Try.underlying22 Try.info5 _ _ _ rfl _ rfl [x0, x1, x2, x3] R5.out.1 (by simp) (by simp; omega) g L (by first | exact if_neg (by omega) | rfl) _ HH3.out (by rw [HLen.out, H4.out.2.1]; simp; omega) ?_; intro w6 HH6 hw6; have HW6 : Hid (w5.grownBy w6 (some g)) := grown_drew hw6; clear hw6))
    all_goals go_wp2
    all_goals
      have HLen2 : Hid ((splice (splice cur (L + 8) (bytesV s)) L (bytesV [x0, x1, x2, x3])).length = cur.length) := (length_splice _ _ _ (by rw [bytesV_length, HLen.out, H4.out.2.1]; simp; omega)).trans HLen.out
      have R6 : Hid (ReadsV w6 (.slice (some ⟨w3.heap.size, 0, none⟩) 4 4) [y0, y1, y2, y3]) := R5.out.2.grown HW6.out H4.out.2.2.2.2.1
      go_region_held3 (fun w' => True) (go_keep) (first | (refine step_copy_bytes rfl (.tmp 45) (.tmp 46) 22 rfl Try.underlying22 Try.info5 _ _ _ rfl _ rfl [y0, y1, y2, y3] R6.out (by simp) (by simp; omega) g (L + 4) (by first | exact if_neg (by omega) | rfl) _ HH6.out (by rw [HLen2.out, H4.out.2.1]; simp; omega) ?_; intro w7 HH7 hw7; have HW7 : Hid (w6.grownBy w7 (some g)) := grown_drew hw7; clear hw7))
      all_goals go_wp2
      all_goals go_ret
      all_goals
        have HF : Hid (w7.heap[g]? = some (.cells (splice (splice (splice cur (L + 8) (bytesV s)) L (bytesV [x0, x1, x2, x3])) (L + 4) (bytesV [y0, y1, y2, y3])).toArray 5 (0, 0))) := HH7.out
        have e : l ++ recd s = l ++ ([x0, x1, x2, x3] ++ ([y0, y1, y2, y3] ++ s)) := by unfold recd; rw [H1.out.1, H3.out.1, H1.out.1]
        rw [e]
        exact ⟨_, rfl, own_put HL.out HN.out H4.out.1 (by omega) (by omega) H4.out.2.1 H4.out.2.2.1 rfl rfl HF.out, below_three H4.out.2.2.2.2.2.2.2.2.1 HB.out HW5.out HW6.out HW7.out H4.out.1, kept_three H4.out.2.2.2.2.2.2.2.2.2 H4.out.2.2.2.2.2.2.2.2.1.size HW5.out HW6.out HW7.out⟩

theorem put_kept (base : Nat) (v u : Value) (l s : Row) (w : World) (ho : Owns w base v l) (hs : ReadsV w u s) (hb : base ≤ w.heap.size) (hl : l.length ≤ 1000000000) (hn : s.length ≤ 1000000000) :
    Calls Try.prog 12 #[v, u] w fun e w' => ∃ v', e = .returned v' ∧ Owns w' base v' (l ++ recd s) ∧ Below base w w' ∧ ∀ k, k < w.heap.size → v.ownBlock ≠ some k → w'.heap[k]? = w.heap[k]? := by
  obtain ⟨a, c, rfl, _⟩ := ReadsV.of_own ho
  obtain ⟨sa, sc, rfl, _⟩ := id hs
  exact put_walk base a sa l.length c s.length sc l s w ho hs rfl rfl hb hl hn
theorem put_any (base : Nat) (v u : Value) (l s : Row) (w : World) (ho : Owns w base v l) (hs : ReadsV w u s) (hb : base ≤ w.heap.size) (hl : l.length ≤ 1000000000) (hn : s.length ≤ 1000000000) :
    Calls Try.prog 12 #[v, u] w fun e w' => ∃ v', e = .returned v' ∧ Owns w' base v' (l ++ recd s) ∧ Below base w w' :=
  (put_kept base v u l s w ho hs hb hl hn).mono fun e w' ⟨v', h1, h2, h3, _⟩ => ⟨v', h1, h2, h3⟩
theorem Owns.kept {w w' : World} {base : Nat} {v : Value} {l : Row} (h : Owns w base v l) (hk : ∀ g, v.ownBlock = some g → w'.heap[g]? = w.heap[g]?) : Owns w' base v l := by
  refine ⟨h.1, ?_⟩
  rcases h.2 with hn | ⟨g, cap, cur, rfl, hg, hh, rest⟩
  · exact .inl hn
  · exact .inr ⟨g, cap, cur, rfl, hg, (hk g rfl).trans hh, rest⟩

end Go.Proofs.Ytccccclnfimcoaa
