/-
  The program's Bytes: a contract.
-/
import Derived.Test.YtcaddedkodjgcaaPgr
import Derived.Laws.CopyOwn
namespace Go.Proofs.Ytcaddedkodjgcaa
open Go.RowKit Pack

theorem grow_own (base : Nat) (a : Option Addr) (n c d : Nat) (l : List (BitVec 8)) (w : World) (ho : Owns w base (.slice a n c) l) (hb : base ≤ w.heap.size) (hd : 0 < d) (hsmall : n + d ≤ 100000000000000) :
    Calls Try.prog 54 #[.slice a n c, .int .i64 d] w fun e w' => ∃ g C cur, e = .returned (.slice (some ⟨g, 0, none⟩) n C) ∧ n + d ≤ C ∧ C ≤ 9223372036854775807 ∧ base ≤ g ∧ (g < w.heap.size → a = some ⟨g, 0, none⟩) ∧
      w'.heap[g]? = some (.cells (List.toArray cur) 5 (0, 0)) ∧ cur.length = C ∧ cur.take n = bytesV l ∧ Below w.heap.size w w' := by
  unfold Owns at ho
  rcases ho.2 with ⟨hv, h0⟩ | ⟨g, cap, cur, hv, hbg, hh, hnc, hcm, hsz, htake⟩
  · simp only [Value.slice.injEq] at hv
    obtain ⟨rfl, rfl, rfl⟩ := hv
    obtain rfl : l = [] := List.length_eq_zero_iff.1 h0
    refine (grow_more none 0 0 d [] w (Nat.le_refl _) (by omega) hsmall rfl (fun _ => rfl) (fun x h => by cases h)).mono ?_
    rintro e w' ⟨G, cur, h1, h2, rfl, rfl, h3, h4⟩
    refine ⟨w.heap.size, G, cur.toList, rfl, h1, h2, hb, fun h => absurd h (Nat.lt_irrefl _), ?_, by simpa using h3, rfl, ((Below.refl _ _).drew).alloc (Nat.le_refl _) _⟩
    rw [Array.toArray_toList]; exact heap_alloc_new w.drew _
  · simp only [Value.slice.injEq] at hv
    obtain ⟨rfl, rfl, rfl⟩ := hv
    rw [Nat.mul_one] at hsz htake
    rw [maxLen_eq] at hcm
    by_cases hroom : l.length + d ≤ c
    · refine (grow_room _ l.length c d w hcm hroom).mono ?_
      rintro e w' ⟨rfl, rfl⟩
      exact ⟨g, c, cur.toList, rfl, hroom, hcm, hbg, fun _ => rfl, by rw [Array.toArray_toList]; exact hh, by simpa using hsz, htake, Below.refl _ _⟩
    · refine (grow_more (some ⟨g, 0, none⟩) l.length c d cur.toList w hnc (by omega) hsmall (by simpa using hsz) (fun h => by cases h) ?_).mono ?_
      · intro x hx
        cases hx
        refine ⟨g, 0, rfl, fun j v hj => ?_⟩
        rw [add_plain, Nat.zero_add, cell_of_row w g j cur 5 (0, 0) hh]
        simpa using hj
      · rintro e w' ⟨G, cur', h1, h2, rfl, rfl, h3, h4⟩
        refine ⟨w.heap.size, G, cur'.toList, rfl, h1, h2, hb, fun h => absurd h (Nat.lt_irrefl _), ?_, by simpa using h3, ?_, ((Below.refl _ _).drew).alloc (Nat.le_refl _) _⟩
        · rw [Array.toArray_toList]; exact heap_alloc_new w.drew _
        · rw [← htake, ← h4, List.take_take, Nat.min_eq_left hnc]

/-- 'copy(dst, src)', dst in a row that is known whole, as long as src or longer: no other block turns. -/
theorem wpList_copy_bytes {P : Program} {w : World} {ops : Array Oper} {rest : List Oper} {o : Oper} {a : Act} {Q : Exit → Act → World → Prop} (hgd : o.guard = none) (d s : Operand) (t : TypeId)
    (ho : o.op = .call { callee := .builtin .copy, args := #[d, s], argTypes := #[t, t] }) (hu : P.underlying t = some (.slice 5)) (hinfo : (P.info? 5).map (fun i => (i.zero, i.size, i.bytes)) = some (some (.int .u8 0), 1, 1))
    (dp : Option Addr) (dLen dCap : Nat) (hd : a.eval d = .slice dp dLen dCap) (x : Value) (hs : a.eval s = x) (l : List (BitVec 8)) (hr : ReadsV w x l) (hl : l.length ≤ dLen)
    (g off : Nat) (hdp : 0 < l.length → dp = some ⟨g, off, none⟩) (cur : List Value) (hg : w.heap[g]? = some (.cells cur.toArray 5 (0, 0))) (hfit : off + l.length ≤ cur.length)
    (h : ∀ w', Hid (w'.heap[g]? = some (.cells (splice cur off (bytesV l)).toArray 5 (0, 0))) → w.grownBy w' (some g) → wpList P ops Q rest (a.put o.dst (goInt l.length)) w') :
    wpList P ops Q (o :: rest) a w := by
  obtain ⟨sp, sCap, rfl, hnil, _, _, hrd⟩ := hr
  have hsz : (P.info? 5).map (·.size) = some 1 := by
    obtain ⟨i, hi, _, h1, _⟩ := info_parts hinfo
    rw [hi]; simp [h1]
  rcases hrd.2 with h0 | ⟨b, off2, rfl, hc⟩
  · subst h0
    refine wpList_copy_nothing hgd d s t t ho 5 hu hsz dp sp _ dCap _ sCap hd hs (Nat.zero_min _) ?_
    exact h w (show _ = _ by simpa [splice, bytesV] using hg) ⟨rfl, rfl, rfl, Nat.le_refl _, fun _ _ _ => rfl⟩
  · by_cases hz : l.length = 0
    · obtain rfl : l = [] := List.length_eq_zero_iff.1 hz
      refine wpList_copy_nothing hgd d s t t ho 5 hu hsz dp _ _ dCap _ sCap hd hs (Nat.zero_min _) ?_
      exact h w (show _ = _ by simpa [splice, bytesV] using hg) ⟨rfl, rfl, rfl, Nat.le_refl _, fun _ _ _ => rfl⟩
    · obtain rfl := hdp (by omega)
      have hlen := bytesV_length l
      refine wpList_copy_own hgd d s t t ho 5 hu hsz g off dLen dCap ⟨b, off2, none⟩ l.length sCap hd hs cur.toArray 5 hg (bytesV l) (by rw [hlen]; exact (Nat.min_eq_left hl).symm) ?_ (by rw [hlen]; simpa using hfit) bytesV_one ?_
      · intro j v hj
        obtain ⟨hj1, rfl⟩ := bytesV_getElem hj
        rw [add_plain]; exact hc j hj1
      · rw [hlen]
        refine h _ (show _ = _ by simpa [splice, hlen] using setRow_heap w g _ _ 5 _ hg) ⟨rfl, rfl, rfl, by simp [World.setRow], fun k _ hk => setRow_other w g k _ (fun e => hk (by rw [e]))⟩

theorem ReadsV.grown {w w' : World} {g1 o n c g : Nat} {l : List (BitVec 8)} (h : ReadsV w (.slice (some ⟨g1, o, none⟩) n c) l) (hg : w.grownBy w' (some g)) (hne : g1 ≠ g) : ReadsV w' (.slice (some ⟨g1, o, none⟩) n c) l := by
  obtain ⟨a', c', hv, h1, h2, h3, hm, hr⟩ := h
  simp only [Value.slice.injEq] at hv
  obtain ⟨rfl, rfl, rfl⟩ := hv
  refine ⟨_, c, rfl, h1, h2, h3, hm, ?_⟩
  rcases hr with hr | ⟨b, off, hb, hc⟩
  · exact .inl hr
  · refine .inr ⟨b, off, hb, fun i hi => hg.cell (hc i hi) ?_⟩
    cases hb
    exact fun e => hne (Option.some.inj e)

/-- The row that was made, and the row that grew, are two. -/
theorem two_rows {w w1 : World} {base g g1 L c R c1 : Nat} {a : Option Addr} {l r : List (BitVec 8)} (ho : Owns w base (.slice a L c) l) (hg1 : w.heap.size ≤ g1) (hr : ReadsV w1 (.slice (some ⟨g1, 0, none⟩) R c1) r) (hR : 0 < R) (hg : g < w1.heap.size → a = some ⟨g, 0, none⟩) : g1 ≠ g := by
  rintro rfl
  obtain ⟨b, off, hb, hlt, _⟩ := cells_of hr hR
  cases hb
  have ha := hg hlt
  subst ha
  have := (World.ownsRow.lt ho g1 rfl).2
  omega

theorem splice_two {cur R S L : List Value} (h : cur.take L.length = L) (hc : L.length + R.length + S.length ≤ cur.length) :
    (splice (splice cur (L.length + R.length) S) L.length R).take (L.length + R.length + S.length) = L ++ R ++ S := by
  have e1 : (splice cur (L.length + R.length) S).take L.length = L := by
    unfold splice
    rw [List.take_append_of_le_length (by simp; omega), List.take_take, Nat.min_eq_left (by omega), h]
  have e2 : (splice cur (L.length + R.length) S).drop (L.length + R.length) = S ++ cur.drop (L.length + R.length + S.length) := by
    unfold splice
    exact List.drop_left' (by simp; omega)
  have e3 : splice (splice cur (L.length + R.length) S) L.length R = (L ++ R ++ S) ++ cur.drop (L.length + R.length + S.length) := by
    show (splice cur (L.length + R.length) S).take L.length ++ (R ++ (splice cur (L.length + R.length) S).drop (L.length + R.length)) = _
    rw [e1, e2]; simp
  rw [e3]
  exact List.take_left' (by simp; omega)

theorem own_final {w : World} {base g C L R n : Nat} {cur : List Value} {l r s : List (BitVec 8)} (hl : l.length = L) (hr : r.length = R) (hs : s.length = n) (hb : base ≤ g) (hC : L + (R + n) ≤ C) (hC2 : C ≤ 9223372036854775807) (hcl : cur.length = C) (hct : cur.take L = bytesV l)
    (hh : w.heap[g]? = some (.cells (splice (splice cur (L + R) (bytesV s)) L (bytesV r)).toArray 5 (0, 0))) : Owns w base (.slice (some ⟨g, 0, none⟩) (L + R + n) C) (l ++ (r ++ s)) := by
  subst hl hr hs
  have h1 := splice_two (cur := cur) (L := bytesV l) (R := bytesV r) (S := bytesV s) (by rw [bytesV_length]; exact hct) (by simp only [bytesV_length]; omega)
  simp only [bytesV_length] at h1
  have hlen : (splice (splice cur (l.length + r.length) (bytesV s)) l.length (bytesV r)).length = C := by
    rw [length_splice _ _ _ (by rw [length_splice _ _ _ (by rw [bytesV_length]; omega), bytesV_length]; omega), length_splice _ _ _ (by rw [bytesV_length]; omega), hcl]
  have hL : (l ++ (r ++ s)).length = l.length + r.length + s.length := by simp; omega
  refine ⟨by simp [bytesV_length], .inr ⟨g, C, _, by rw [hL], hb, hh, by omega, by rw [maxLen_eq]; exact hC2, by simpa using hlen, ?_⟩⟩
  rw [Nat.mul_one, hL]
  show (splice (splice cur (l.length + r.length) (bytesV s)) l.length (bytesV r)).take _ = _
  rw [h1, ← bytesV_append, ← bytesV_append, List.append_assoc]

theorem below_two {w w1 w2 w3 w4 : World} {base g : Nat} (h0 : base ≤ w.heap.size) (h1 : Below w.heap.size w w1) (h2 : Below w1.heap.size w1 w2) (h3 : w2.grownBy w3 (some g)) (h4 : w3.grownBy w4 (some g)) (hg : base ≤ g) : Below base w w4 := by
  have e1 : Below base w w1 := h1.mono h0
  have e2 : Below base w w2 := e1.trans (h2.mono (Nat.le_trans h0 h1.size))
  have s2 : base ≤ w2.heap.size := Nat.le_trans h0 e2.size
  have e3 : Below base w w3 := e2.grown h3 s2 (fun k hk => by cases hk; exact hg)
  exact e3.grown h4 (Nat.le_trans h0 e3.size) (fun k hk => by cases hk; exact hg)

theorem uint_new (x : Int) (n : Nat) (w : World) (hx : x = (n : Int)) (hn : n < 18446744073709551616) : Calls Try.prog 40 #[.slice none 0 0, .int .u64 x] w fun e w' => ∃ g cap, e = .returned (.slice (some ⟨g, 0, none⟩) (urow n).length cap) ∧ w.heap.size ≤ g ∧ ReadsV w' (.slice (some ⟨g, 0, none⟩) (urow n).length cap) (urow n) ∧ Below w.heap.size w w' := by
  subst hx
  refine (uint_any w.heap.size _ [] n _ (Owns.nil _ _) (Nat.le_refl _) (by decide) hn).mono ?_
  rintro e w' ⟨v', rfl, ho, hB⟩
  rw [List.nil_append] at ho
  obtain ⟨g, cap, rfl, h1, h2, h3, _⟩ := shape ho (urow_pos n)
  exact ⟨g, cap, rfl, h3, ReadsV.of_own ho, hB⟩

theorem grow_eq (x : Int) (base : Nat) (a : Option Addr) (n c d : Nat) (l : List (BitVec 8)) (w : World) (hx : x = (d : Int)) (ho : Owns w base (.slice a n c) l) (hb : base ≤ w.heap.size) (hd : 0 < d) (hsmall : n + d ≤ 100000000000000) :
    Calls Try.prog 54 #[.slice a n c, .int .i64 x] w fun e w' => ∃ g C cur, e = .returned (.slice (some ⟨g, 0, none⟩) n C) ∧ n + d ≤ C ∧ C ≤ 9223372036854775807 ∧ base ≤ g ∧ (g < w.heap.size → a = some ⟨g, 0, none⟩) ∧
      w'.heap[g]? = some (.cells (List.toArray cur) 5 (0, 0)) ∧ cur.length = C ∧ cur.take n = bytesV l ∧ Below w.heap.size w w' := by
  subst hx; exact grow_own base a n c d l w ho hb hd hsmall

set_option maxRecDepth 100000 in
set_option maxHeartbeats 400000 in
theorem bytes_walk (base : Nat) (a sa : Option Addr) (L c n sc R : Nat) (l s : List (BitVec 8)) (w : World) (HO : Hid (Owns w base (.slice a L c) l)) (HS : Hid (ReadsV w (.slice sa n sc) s)) (HL : Hid (l.length = L)) (HN : Hid (s.length = n)) (HR : Hid ((urow n).length = R))
    (HB : Hid (base ≤ w.heap.size)) (hL : L ≤ 10000000000000) (hn : n ≤ 10000000000000) (hR : R ≤ 10) (hR0 : 0 < R) :
    Calls Try.prog 42 #[.slice a L c, .slice sa n sc] w fun e w' => ∃ v', e = .returned v' ∧ Owns w' base v' (l ++ (urow n ++ s)) ∧ Below base w w' := by
  have HN64 : Hid (n < 18446744073709551616) := by show _ < _; omega
  go_enter Try.func42, Try.ntmps42
  go_wp2_with (first
    | (go_at_call 40; refine (uint_new _ n _ rfl HN64.out).mono ?_; rw [HR.out]; rintro e w1 ⟨g1, c1, rfl, hg1, hr, hB⟩; have HG1 : Hid (w.heap.size ≤ g1) := hg1; have HR1 : Hid (ReadsV w1 (.slice (some ⟨g1, 0, none⟩) R c1) (urow n)) := hr; have HB1 : Hid (Below w.heap.size w w1) := hB; clear hg1 hr hB)
    | (go_at_call 54; refine (grow_eq _ base a L c (R + n) l _ (by omega) (HO.out.below HB1.out) (Nat.le_trans HB.out HB1.out.size) (by omega) (by omega)).mono ?_; rintro e w2 ⟨g, C, cur, rfl, hC1, hC2, hbg, hgl, hh, hcl, hct, hB⟩; have HGS : Hid (base ≤ g ∧ cur.length = C ∧ cur.take L = bytesV l) := ⟨hbg, hcl, hct⟩; have HH : Hid (w2.heap[g]? = some (.cells (List.toArray cur) 5 (0, 0))) := hh; have HB2 : Hid (Below w1.heap.size w1 w2) := hB; have HNE : Hid (g1 ≠ g) := two_rows HO.out HG1.out HR1.out hR0 hgl; clear hbg hgl hh hcl hct hB)
    | (have := HH3; refine wpList_copy_bytes rfl (.tmp 37) (.tmp 38) 27 rfl Try.underlying27 Try.info5 _ _ _ rfl _ rfl (urow n) ((HR1.out.below HB2.out).grown HW3.out HNE.out) (by rw [HR.out]; omega) g L (by intro hpos; first | exact if_neg (by omega) | rfl) _ HH3.out (by rw [length_splice _ _ _ (by rw [bytesV_length, HN.out, HGS.out.2.1]; omega), HGS.out.2.1, HR.out]; omega) ?_; intro w4 HH4 hw4; have HW4 : Hid (w3.grownBy w4 (some g)) := hw4; clear hw4)
    | (have := HH; refine wpList_copy_bytes rfl (.tmp 31) (.tmp 32) 27 rfl Try.underlying27 Try.info5 _ _ _ rfl _ rfl s ((HS.out.below HB1.out).below HB2.out) (by rw [HN.out]; omega) g (L + R) (by rw [HN.out]; intro hpos; first | exact if_neg (by omega) | rfl) cur HH.out (by rw [HN.out, HGS.out.2.1]; omega) ?_; intro w3 HH3 hw3; have HW3 : Hid (w2.grownBy w3 (some g)) := hw3; clear hw3))
  all_goals go_ret
  all_goals first
    | exact ⟨_, rfl, own_final HL.out HR.out HN.out HGS.out.1 hC1 hC2 HGS.out.2.1 HGS.out.2.2 HH4.out, below_two HB.out HB1.out HB2.out HW3.out HW4.out HGS.out.1⟩
    | exact ⟨_, rfl, own_final HL.out HR.out HN.out HGS.out.1 (by omega) (by omega) (by rw [HGS.out.2.1]; assumption) HGS.out.2.2 HH4.out, below_two HB.out HB1.out HB2.out HW3.out HW4.out HGS.out.1⟩

end Go.Proofs.Ytcaddedkodjgcaa
