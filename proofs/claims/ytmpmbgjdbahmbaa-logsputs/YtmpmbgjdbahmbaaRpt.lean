/-
  The document's Put: its contract.
-/
import Derived.Test.YtmpmbgjdbahmbaaRfc
import Derived.Test.YtmpmbgjdbahmbaaPut
namespace Go.Proofs.Ytmpmbgjdbahmbaa
open Go.RowKit
set_option linter.unusedVariables false

/-- What the document's Put answers. -/
def RPutP (b bt : Int) (x : List En × Int × Bool) (w : World) (e : Ending) (w' : World) : Prop := ∃ ra rc, e = .returned (.tuple #[.agg #[.int .i64 b, .int .i64 bt, .slice ra x.1.length rc], .int .i64 x.2.1, .bool x.2.2]) ∧ EnsV w' (fun _ => True) ra rc x.1 ∧ Below w.heap.size w w'
def So (w : World) (ob : Nat) (g : Nat) : Prop := g < w.heap.size ∨ ob + 1 ≤ g
/-- The log that is made, in its box. -/
structure Ob (w w3 wr : World) (ob : Nat) (b bt : Int) (v : Value) (ts : List En) : Prop where
  kb : Below ob w3 wr
  c : Cell3 wr ob (.int .i64 b) (.int .i64 bt) v
  g : Gz wr (ob + 1) (So w ob) v ts
  lo : w.heap.size ≤ ob
section
variable {w w3 wr wx w5 : World} {ob : Nat} {b bt : Int} {v v5 : Value} {ts l : List En}
theorem Ob.new (w w3 : World) (b bt : Int) (lo : w.heap.size ≤ w3.heap.size) : Ob w w3 (w3.alloc (.cells #[.int .i64 b, .int .i64 bt, .slice none 0 0] 24)) w3.heap.size b bt (.slice none 0 0) [] := ⟨(Below.refl _ _).alloc (Nat.le_refl _) _, Cell3.new w3 _ _ _ 24, Gz.nil _ _ _, lo⟩
theorem Ob.below (h : Ob w w3 wr ob b bt v ts) (hb : Below wr.heap.size wr wx) : Ob w w3 wx ob b bt v ts := ⟨h.kb.trans (hb.mono (Nat.le_of_lt h.c.lt)), h.c.below hb, h.g.below hb, h.lo⟩
theorem Ob.hi (h : Ob w w3 wr ob b bt v ts) : ob + 1 ≤ wr.heap.size := h.c.lt
/-- What is appended is put into the box. -/
theorem Ob.add (h : Ob w w3 wr ob b bt v ts) (h5 : Gz w5 (ob + 1) (So w ob) v5 (ts ++ l)) (hg : wr.grownBy w5 v.ownBlock) : Cell3 w5 ob (.int .i64 b) (.int .i64 bt) v ∧ Ob w w3 (w5.setCell ⟨ob, 2, none⟩ v5) ob b bt v5 (ts ++ l) := by
  have hh := h.hi
  have hlo := h.lo
  have hB : Below (ob + 1) wr w5 := (Below.refl _ _).grown hg hh fun k hk => (h.g.own k hk).1
  have hC := h.c.kept (hB.block _ (Nat.lt_succ_self _))
  refine ⟨hC, (h.kb.trans (hB.mono (Nat.le_succ _))).setCell (p := ⟨ob, 2, none⟩) (Nat.le_refl _) _, hC.put 2 v5, h5.kept fun g hg _ => Below.heap_setCell _ _ _ _ ?_, hlo⟩
  show g ≠ ob
  rcases hg with q | q | q <;> omega
end
set_option maxRecDepth 100000 in
set_option maxHeartbeats 3200000 in
theorem RPut_any (b bt : Int) (a a2 : Option Addr) (c c2 : Nat) (es r : List En) (p t : Int) (w : World) (hb : 0 ≤ b) (hb2 : b ≤ 1099511627776) (hp : 0 ≤ p) (hp2 : p ≤ 4398046511104) (ht : InR t) (hbt : InR bt) (hE : EnsV w (fun _ => True) a c es) (hs : es.length ≤ 300) (hR : EnsV w (fun _ => True) a2 c2 r) (hsr : r.length ≤ 300) : Calls Try.prog 29 #[.agg #[.int .i64 b, .int .i64 bt, .slice a es.length c], .int .i64 p, .int .i64 t, .slice a2 r.length c2] w (RPutP b bt (putM b bt es p t r) w) := by
  have h3 := hE.cap1
  have h4 := hE.cap2
  have h5 := hR.cap1
  have h6 := hR.cap2
  obtain ⟨t1, t2⟩ := ht
  obtain ⟨t3, t4⟩ := hbt
  have HLa : Hid (∀ wx, Calls Try.prog 19 #[.agg #[.int .i64 b, .int .i64 bt, .slice a es.length c]] wx fun e w' => e = .returned (.int .i64 (b + es.length)) ∧ Below wx.heap.size wx w') := fun wx => RLast_any b bt a es.length c wx hb (by omega) (by omega)
  have HTe : Hid (∀ q wx, InR q → Below w.heap.size w wx → Calls Try.prog 18 #[.agg #[.int .i64 b, .int .i64 bt, .slice a es.length c], .int .i64 q] wx fun e w' => e = .returned (.tuple #[.int .i64 (termM b bt es q).1, .bool (termM b bt es q).2]) ∧ Below wx.heap.size wx w') := fun q wx hq h => RTerm_any _ b bt a c es q wx hb (by omega) (by omega) hq (hE.below h)
  have HHi : Hid (∀ q wx, b ≤ q → q ≤ b + es.length → Below w.heap.size w wx → Calls Try.prog 42 #[.agg #[.int .i64 b, .int .i64 bt, .slice a es.length c], .int .i64 q] wx fun e w' => e = .returned (.int .i64 (b + downM es (termM b bt es q).1 (q - b).toNat)) ∧ Below wx.heap.size wx w') := fun q wx h1 h2 h => hint_any _ b bt a c es q wx hb (by omega) (by omega) h1 h2 (hE.below h)
  have HCt : Hid (∀ q wx, b ≤ q → q ≤ b + es.length → Below w.heap.size w wx → Calls Try.prog 43 #[.agg #[.int .i64 b, .int .i64 bt, .slice a es.length c], .int .i64 q] wx fun e w' => (∃ ra rc, e = .returned (.slice ra (q - b).toNat rc) ∧ EnsV w' (fun g => g < w.heap.size ∨ wx.heap.size + 1 ≤ g) ra rc (es.take (q - b).toNat)) ∧ Below wx.heap.size wx w') := fun q wx h1 h2 h => (cut_any _ b bt a c es q wx hb (by omega) h1 h2 (hE.low.below h) (by omega) (fun g hg => Nat.lt_of_lt_of_le hg h.size)).mono fun e w' ⟨ra, rc, q1, q2, q3⟩ => ⟨⟨ra, rc, q1, q2⟩, q3⟩
  have HEl : Hid (∀ wx, Below w.heap.size w wx → EnsV wx (fun _ => True) a c es) := fun wx h => hE.below h
  by_cases c0 : p < b
  · by_cases c1 : (r.length : Int) < b - p
    · rw [show putM b bt es p t r = (es, b, true) by unfold putM; rw [if_pos c0, if_pos c1]]
      generalize r.length = n2 at *
      generalize hnl : es.length = n at *
      have HG : Hid (∀ w', Below w.heap.size w w' → RPutP b bt (es, b, true) w (.returned (.tuple #[.agg #[.int .i64 b, .int .i64 bt, .slice a n c], .int .i64 b, .bool true])) w') := fun w' h => ⟨a, c, by rw [hnl], HEl.out w' h, h⟩
      clear hE hR HTe HHi HLa HCt
      go_enter Try.func29, Try.ntmps29
      go_wp2
      go_region_held3 (fun w' => w'.cell? ⟨w.heap.size, 0, none⟩ = some (.int .i64 b) ∧ w'.cell? ⟨w.heap.size, 1, none⟩ = some (.int .i64 bt) ∧ w'.cell? ⟨w.heap.size, 2, none⟩ = some (.slice a n c)) (go_keep) (fail)
      go_wp2
      exact bodyPost_ret (v := .tuple #[.agg #[.int .i64 b, .int .i64 bt, .slice a n c], .int .i64 b, .bool true]) (by simp [results, Try.results29, go_sem]) rfl (HG.out _ ((below2 _ _ _).drew))
    · rw [show putM b bt es p t r = put2M b bt es b bt (r.drop (b - p).toNat) by unfold putM; rw [if_pos c0, if_neg c1], put2_yes (by rw [term_base]) (by rw [term_base]), show (b - b).toNat = 0 by omega]
      have HT : Hid (∀ wx, Below w.heap.size w wx → Calls Try.prog 18 #[.agg #[.int .i64 b, .int .i64 bt, .slice a es.length c], .int .i64 b] wx fun e w' => e = .returned (.tuple #[.int .i64 bt, .bool true]) ∧ Below wx.heap.size wx w') := fun wx h => by have := HTe.out b wx ⟨by omega, by omega⟩ h; rw [term_base] at this; exact this
      obtain ⟨k, hk⟩ : ∃ k, (b - p).toNat = k := ⟨_, rfl⟩
      rw [hk]
      have u4 : 0 ≤ b - p := by omega
      have u5 : b - p ≤ (r.length : Int) := by omega
      have u6 : b - p ≤ (c2 : Int) := by omega
      by_cases hck : c2 = k
      · have hn2 : r.length = k := by omega
        rw [show r.drop k = [] from List.drop_of_length_le (by omega), List.take_zero, List.drop_zero, List.nil_append, show tailM es [] = es by cases es <;> rfl, show b + (([] : List En).length : Int) = b by simp]
        clear hE hR HHi HTe HLa HCt
        generalize hnl : es.length = n at *
        have HG : Hid (∀ w', Below w.heap.size w w' → RPutP b bt (es, b, true) w (.returned (.tuple #[.agg #[.int .i64 b, .int .i64 bt, .slice a n c], .int .i64 b, .bool true])) w') := fun w' h => ⟨a, c, by rw [hnl], HEl.out w' h, h⟩
        have hck2 : c2 = r.length := by omega
        generalize r.length = n2 at *
        subst hck2
        subst hn2
        go_enter Try.func29, Try.ntmps29
        go_wp2_with (go_at_call 18; refine (HT.out _ (Bx2.at_ (w := w) (b := b) (bt := bt) (v := .slice a n c) (b' := 0) (bt' := 0) (v' := .slice none 0 0) (Below.refl _ _)).2).mono ?_; rintro e w1 ⟨rfl, HB⟩; have H1 : Hid (Below (w.heap.size + 1 + 1) ((w.alloc (.cells #[.int .i64 b, .int .i64 bt, .slice a n c] 24)).alloc (.cells #[.int .i64 0, .int .i64 0, .slice none 0 0] 24)) w1) := two_up (Below.refl _ _) HB; obtain ⟨⟨⟨ka0, ka1, ka2, ka3⟩, ⟨ka4, ka5, ka6, ka7⟩⟩, _⟩ := Bx2.at_ (w := w) (b := b) (bt := bt) (v := .slice a n c) (b' := 0) (bt' := 0) (v' := .slice none 0 0) H1.out; have kal : w.heap.size + 1 < _ := World.block_lt_of_cell? _ _ ka4; clear HB)
        go_loopw [17] (fun y wr => y = .int .i64 0 ∧ w1 = wr) (fun y _ => 0)
        case atStart => exact ⟨rfl, rfl⟩
        case round =>
          obtain ⟨rfl, rfl⟩ := hrel
          go_wp2
          obtain ⟨e0, e1, e2, _⟩ := boxed (w0 := w) (v0 := .int .i64 b) (v1 := .int .i64 bt) (v2 := .slice a n c) (Bx2.at_ (w := w) (b := b) (bt := bt) (v := .slice a n c) (b' := 0) (bt' := 0) (v' := .slice none 0 0) H1.out).1.g
          exact bodyPost_ret (v := .tuple #[.agg #[.int .i64 b, .int .i64 bt, .slice a n c], .int .i64 b, .bool true]) (by simp [results, Try.results29, go_sem, e0, e1, e2]) rfl (HG.out _ (boxed_below (Bx2.at_ (w := w) (b := b) (bt := bt) (v := .slice a n c) (b' := 0) (bt' := 0) (v' := .slice none 0 0) H1.out).2 (Nat.le_succ _)))
      · obtain ⟨kf, hkf⟩ : ∃ kf : Nat, kf = 0 := ⟨_, rfl⟩
        have hpf : b = b + (kf : Int) := by omega
        have hkl : kf ≤ es.length := by omega
        rw [← hkf]
        clear hkf
        have hkr : k ≤ r.length := by omega
        obtain ⟨sa, hsa⟩ : ∃ sa, Option.map (fun x => x.add (k * 2)) a2 = sa := ⟨_, rfl⟩
        have HRs := hR.dropN (k := k) hkr hck
        rw [hsa] at HRs
        obtain ⟨rn, hrn⟩ : ∃ rn, r.length - k = rn := ⟨_, rfl⟩
        obtain ⟨rc0, hrc⟩ : ∃ rc0, c2 - k = rc0 := ⟨_, rfl⟩
        rw [hrc] at HRs
        have hrsl : (r.drop k).length = rn := by rw [List.length_drop]; exact hrn
        have h7 := HRs.cap1
        have h8 := HRs.cap2
        have HTf : Hid (∀ (i : Nat) wx, Below w.heap.size w wx → (i < (es.drop kf).length → Calls Try.prog 18 #[.agg #[.int .i64 b, .int .i64 bt, .slice a es.length c], .int .i64 (b + 1 + (i : Int))] wx fun e w' => e = .returned (.tuple #[.int .i64 (tOf (es.drop kf) i), .bool true]) ∧ Below wx.heap.size wx w') ∧ (i ≤ (r.drop k).length → ¬ i < (es.drop kf).length → Calls Try.prog 18 #[.agg #[.int .i64 b, .int .i64 bt, .slice a es.length c], .int .i64 (b + 1 + (i : Int))] wx fun e w' => e = .returned (.tuple #[.int .i64 0, .bool false]) ∧ Below wx.heap.size wx w')) := fun i wx h => by
          rw [List.length_drop]
          refine ⟨fun hi => ?_, fun hi2 hi => ?_⟩
          · have := HTe.out (b + 1 + (i : Int)) wx ⟨by omega, by omega⟩ h
            rw [term_in (by omega) (by omega), show (b + 1 + (i : Int) - b - 1).toNat = kf + i by omega, ← tOf_drop] at this
            exact this
          · have := HTe.out (b + 1 + (i : Int)) wx ⟨by omega, by omega⟩ h
            rw [term_out (by omega)] at this
            exact this
        have HJ : Hid (∀ i, (∀ j, j < i → j < (es.drop kf).length ∧ tOf (es.drop kf) j = tOf (r.drop k) j) → i < (r.drop k).length → ((es.drop kf).length ≤ i ∨ tOf (es.drop kf) i ≠ tOf (r.drop k) i) → es.take (kf + i) ++ ((r.drop k)).drop i = es.take kf ++ tailM (es.drop kf) (r.drop k)) := fun i h1 h2 h3 => join_at h1 h2 h3
        have HJ2 : Hid ((∀ j, j < (r.drop k).length → j < (es.drop kf).length ∧ tOf (es.drop kf) j = tOf (r.drop k) j) → es = es.take kf ++ tailM (es.drop kf) (r.drop k)) := fun q => join_all q
        have HLe : Hid (∀ k, k ≤ es.length → (es.take k).length = k) := fun k hk => by rw [List.length_take]; omega
        have HLr : Hid (∀ i, (((r.drop k)).drop i).length = (r.drop k).length - i) := fun i => List.length_drop
        have hstl : (es.drop kf).length = es.length - kf := List.length_drop
        have HCr : Hid (∀ wr i, Below w.heap.size w wr → i < (r.drop k).length → ∃ g o, sa = some ⟨g, o, none⟩ ∧ wr.cell? ⟨g, o + i * 2, none⟩ = some (.int .i64 (tOf (r.drop k) i)) ∧ g < wr.heap.size) := fun wr i h hi => by
          obtain ⟨g, o, ka, kc, q1, q2, q3, q4, q5, q6, _⟩ := (HRs.below h).at_ hi
          exact ⟨g, o, q1, q2, q6⟩
        have HRd : Hid (∀ i g o, i < (r.drop k).length → sa = some ⟨g, o, none⟩ → ∀ wx, Below w.heap.size w wx → EnsV wx (fun g => g < w.heap.size) (some ⟨g, o + i * 2, none⟩) (rc0 - i) ((r.drop k).drop i)) := fun i g o hi ha wx h => by
          have e2 := (HRs.low.below h).dropN (k := i) (by omega) (by omega)
          rw [ha, Option.map_some, add2] at e2
          exact e2
        have HQ0 : Hid (b + ((r.drop k).length : Int) = b + (rn : Int)) := by show _ = _; rw [hrsl]
        rw [HQ0.out]
        rw [hrsl] at HTf HJ HJ2 HLr HCr HRd h7
        clear HRs HQ0 hrsl
        generalize hjl : es.take kf ++ tailM (es.drop kf) (r.drop k) = jl at *
        generalize es.drop kf = st at *
        generalize r.drop k = rs at *
        clear hE hR hjl HHi HTe HLa
        generalize r.length = n2 at *
        generalize hnl : es.length = n at *
        have HPf : Hid (b = b + (kf : Int)) := hpf
        clear hpf
        go_enter Try.func29, Try.ntmps29
        go_wp2_with (go_at_call 18; refine (HT.out _ (Bx2.at_ (w := w) (b := b) (bt := bt) (v := .slice a n c) (b' := 0) (bt' := 0) (v' := .slice none 0 0) (Below.refl _ _)).2).mono ?_; rintro e w1 ⟨rfl, HB⟩; have H1 : Hid (Below (w.heap.size + 1 + 1) ((w.alloc (.cells #[.int .i64 b, .int .i64 bt, .slice a n c] 24)).alloc (.cells #[.int .i64 0, .int .i64 0, .slice none 0 0] 24)) w1) := two_up (Below.refl _ _) HB; obtain ⟨⟨⟨ka0, ka1, ka2, ka3⟩, ⟨ka4, ka5, ka6, ka7⟩⟩, _⟩ := Bx2.at_ (w := w) (b := b) (bt := bt) (v := .slice a n c) (b' := 0) (bt' := 0) (v' := .slice none 0 0) H1.out; have kal : w.heap.size + 1 < _ := World.block_lt_of_cell? _ _ ka4; clear HB)
        go_loopw [17] (fun y wr => ∃ (i : Nat), i ≤ rn ∧ y = .int .i64 i ∧ Hid (Below (w.heap.size + 1 + 1) ((w.alloc (.cells #[.int .i64 b, .int .i64 bt, .slice a n c] 24)).alloc (.cells #[.int .i64 0, .int .i64 0, .slice none 0 0] 24)) wr ∧ ∀ j, j < i → j < st.length ∧ tOf st j = tOf rs j)) (fun y _ => rn - (intOf y).toNat)
        case atStart => exact ⟨0, Nat.zero_le _, rfl, H1.out, fun j hj => absurd hj (Nat.not_lt_zero _)⟩
        case round =>
          clear ka0 ka1 ka2 ka3 ka4 ka5 ka6 ka7 kal
          obtain ⟨i, hi, rfl, HR⟩ := hrel
          obtain ⟨⟨⟨kb0, kb1, kb2, kb3⟩, ⟨kb4, kb5, kb6, kb7⟩⟩, _⟩ := Bx2.at_ (w := w) (b := b) (bt := bt) (v := .slice a n c) (b' := 0) (bt' := 0) (v' := .slice none 0 0) HR.out.1; have kbl : w.heap.size + 1 < _ := World.block_lt_of_cell? _ _ kb4
          by_cases hlt : i < rn
          · obtain ⟨g, o, x1, x2, x4⟩ := HCr.out wr i (Bx2.at_ (w := w) (b := b) (bt := bt) (v := .slice a n c) (b' := 0) (bt' := 0) (v' := .slice none 0 0) HR.out.1).2 hlt
            have hil : i ≤ st.length := Nat.le_of_not_lt fun q => Nat.lt_irrefl _ (HR.out.2 st.length q).1
            have hF1 : b + 1 + (i : Int) ≤ 4398046511999 := by omega
            have HKr : Hid (Below (w.heap.size + 1 + 1) ((w.alloc (.cells #[.int .i64 b, .int .i64 bt, .slice a n c] 24)).alloc (.cells #[.int .i64 0, .int .i64 0, .slice none 0 0] 24)) wr) := HR.out.1
            by_cases hd : i < st.length ∧ tOf st i = tOf rs i
            · have HQ : Hid (∀ j, j < i + 1 → j < st.length ∧ tOf st j = tOf rs j) := fun j hj => by
                by_cases e : j = i
                · subst e; exact hd
                · exact HR.out.2 j (by omega)
              have HT2 : Hid (Calls Try.prog 18 #[.agg #[.int .i64 b, .int .i64 bt, .slice a n c], .int .i64 (b + 1 + (i : Int))] wr fun e w' => e = .returned (.tuple #[.int .i64 (tOf rs i), .bool true]) ∧ Below wr.heap.size wr w') := by
                have := (HTf.out i wr (Bx2.at_ (w := w) (b := b) (bt := bt) (v := .slice a n c) (b' := 0) (bt' := 0) (v' := .slice none 0 0) HR.out.1).2).1 hd.1
                rw [hd.2] at this
                exact this
              clear HR HCr HTf HJ HJ2 HRd hd HLe HLr
              subst x1
              generalize tOf rs i = u at *
              go_wp2_with (go_at_call 18; refine HT2.out.mono ?_; rintro e w3 ⟨rfl, HB⟩; have H3 : Hid (Below (w.heap.size + 1 + 1) ((w.alloc (.cells #[.int .i64 b, .int .i64 bt, .slice a n c] 24)).alloc (.cells #[.int .i64 0, .int .i64 0, .slice none 0 0] 24)) w3) := two_up HKr.out HB; obtain ⟨⟨⟨kc0, kc1, kc2, kc3⟩, ⟨kc4, kc5, kc6, kc7⟩⟩, _⟩ := Bx2.at_ (w := w) (b := b) (bt := bt) (v := .slice a n c) (b' := 0) (bt' := 0) (v' := .slice none 0 0) H3.out; have kcl : w.heap.size + 1 < _ := World.block_lt_of_cell? _ _ kc4; have y2 := (cell_kept (HB.block g x4) (o + i * 2)).trans x2; have y4 : g < w3.heap.size := Nat.lt_of_lt_of_le x4 HB.size; clear HB)
              go_roundw
              case rel => exact ⟨i + 1, by omega, by go_num, H3.out, HQ.out⟩
              case measure => simp [intOf]; omega
            · have HJi : Hid (es.take (kf + i) ++ rs.drop i = jl) := HJ.out i HR.out.2 hlt (by by_cases q : i < st.length; exact .inr fun e => hd ⟨q, e⟩; exact .inl (by omega))
              have hki : kf + i ≤ n := by omega
              have HTi : ∃ (u1 : Int) (u2 : Bool), (u2 = true → ¬ u1 = tOf rs i) ∧ Calls Try.prog 18 #[.agg #[.int .i64 b, .int .i64 bt, .slice a n c], .int .i64 (b + 1 + (i : Int))] wr fun e w' => e = .returned (.tuple #[.int .i64 u1, .bool u2]) ∧ Below wr.heap.size wr w' := by
                have := HTf.out i wr (Bx2.at_ (w := w) (b := b) (bt := bt) (v := .slice a n c) (b' := 0) (bt' := 0) (v' := .slice none 0 0) HR.out.1).2
                by_cases q : i < st.length
                · exact ⟨_, _, fun _ e => hd ⟨q, e⟩, this.1 q⟩
                · exact ⟨_, _, fun e => (by cases e), this.2 (by omega) q⟩
              obtain ⟨u1, u2, hu, hti⟩ := HTi
              have HT2 : Hid (Calls Try.prog 18 #[.agg #[.int .i64 b, .int .i64 bt, .slice a n c], .int .i64 (b + 1 + (i : Int))] wr fun e w' => e = .returned (.tuple #[.int .i64 u1, .bool u2]) ∧ Below wr.heap.size wr w') := hti
              have hu3 : u2 = false ∨ (u2 = true ∧ (u1 == tOf rs i) = false) := by
                cases u2 with
                | false => exact .inl rfl
                | true => exact .inr ⟨rfl, beq_eq_false_iff_ne.2 (hu rfl)⟩
              have HCi : Hid (∀ wx, Below w.heap.size w wx → Calls Try.prog 43 #[.agg #[.int .i64 b, .int .i64 bt, .slice a n c], .int .i64 (b + (i : Int))] wx fun e w' => (∃ ra rc, e = .returned (.slice ra (kf + i) rc) ∧ EnsV w' (fun g => g < w.heap.size ∨ wx.heap.size + 1 ≤ g) ra rc (es.take (kf + i))) ∧ Below wx.heap.size wx w') := fun wx h => by
                have hpf := HPf.out
                have := HCt.out (b + (i : Int)) wx (by omega) (by omega) h
                rw [show (b + (i : Int) - b).toNat = kf + i by omega] at this
                exact this
              have HRi : Hid (∀ wx, Below w.heap.size w wx → EnsV wx (fun g => g < w.heap.size) (some ⟨g, o + i * 2, none⟩) (rc0 - i) (rs.drop i)) := HRd.out i g o hlt x1
              have HLs : Hid ((es.take (kf + i)).length = kf + i ∧ (rs.drop i).length = rn - i) := ⟨HLe.out _ hki, HLr.out i⟩
              have HGj : Hid (∀ (q : Int) (ra : Option Addr) (rc : Nat) w', EnsV w' (fun _ => True) ra rc jl → Below w.heap.size w w' → RPutP b bt (jl, q, true) w (.returned (.tuple #[.agg #[.int .i64 b, .int .i64 bt, .slice ra jl.length rc], .int .i64 q, .bool true])) w') := fun q ra rc w' h1 h2 => ⟨ra, rc, rfl, h1, h2⟩
              clear hti hu HR HCr HTf HJ HJ2 hd HCt HRd HLe HLr
              subst x1
              have hw9 : IntKind.i64.wrap (b + (i : Int)) = b + (i : Int) := by rw [IntKind.wrap_i64]; omega
              have hci : ¬ rc0 = i := by omega
              have hb9 : (i : Int) ≤ ((rc0 : Nat) : Int) := by omega
              have hb8 : (i : Int) ≤ ((rn : Nat) : Int) := by omega
              generalize tOf rs i = u at *
              generalize es.take (kf + i) = ft at *
              generalize rs.drop i = rt at *
              rcases hu3 with rfl | ⟨rfl, hu4⟩
              all_goals (
                go_wp2_with (go_at_call 18; refine HT2.out.mono ?_; rintro e w3 ⟨rfl, HB⟩; have H3 : Hid (Below (w.heap.size + 1 + 1) ((w.alloc (.cells #[.int .i64 b, .int .i64 bt, .slice a n c] 24)).alloc (.cells #[.int .i64 0, .int .i64 0, .slice none 0 0] 24)) w3) := two_up HKr.out HB; obtain ⟨⟨⟨kc0, kc1, kc2, kc3⟩, ⟨kc4, kc5, kc6, kc7⟩⟩, _⟩ := Bx2.at_ (w := w) (b := b) (bt := bt) (v := .slice a n c) (b' := 0) (bt' := 0) (v' := .slice none 0 0) H3.out; have kcl : w.heap.size + 1 < _ := World.block_lt_of_cell? _ _ kc4; have y2 := (cell_kept (HB.block g x4) (o + i * 2)).trans x2; have y4 : g < w3.heap.size := Nat.lt_of_lt_of_le x4 HB.size; clear HB)
                have HO : Hid (Ob w w3 (w3.alloc (.cells #[.int .i64 b, .int .i64 bt, .slice none 0 0] 24)) w3.heap.size b bt (.slice none 0 0) []) := Ob.new w w3 b bt (Bx2.at_ (w := w) (b := b) (bt := bt) (v := .slice a n c) (b' := 0) (bt' := 0) (v' := .slice none 0 0) H3.out).2.size
                have hs3 : w.heap.size < w3.heap.size := by omega
                have hs4 : w.heap.size + 1 < w3.heap.size := by omega
                have HLow : Hid (∀ wx, Below w3.heap.size w3 wx → Below (w.heap.size + 1 + 1) ((w.alloc (.cells #[.int .i64 b, .int .i64 bt, .slice a n c] 24)).alloc (.cells #[.int .i64 0, .int .i64 0, .slice none 0 0] 24)) wx) := fun wx h => two_up H3.out h
                have HLowO : Hid (∀ wx, Below w3.heap.size w3 wx → w3.heap.size + 1 ≤ wx.heap.size → Below (w.heap.size + 1 + 1) ((w.alloc (.cells #[.int .i64 b, .int .i64 bt, .slice a n c] 24)).alloc (.cells #[.int .i64 0, .int .i64 0, .slice none 0 0] 24)) wx) := fun wx h h2 => H3.out.trans (h.mono (by omega))
                go_region_law (first
                  | (refine step_app (B := w3.heap.size + 1) (S := So w w3.heap.size) (ts := []) (v := .slice none 0 0) rfl _ _ rfl (HO4.out.1.g) HO4.out.2.1 (by have := HLs.out.1; omega) HO4.out.2.2 HO4.out.1.hi rfl rfl (by have := HLs.out.1; simp only [List.length_nil]; omega) ?_; intro v5 w5 q1 q2 q3; obtain ⟨⟨z0, z1, z2, z3⟩, q5⟩ := HO4.out.1.add q1 q2; rw [List.nil_append] at q1 q5; obtain ⟨va, vc, hv⟩ := q1.form; subst hv; have HO5 : Hid (Ob w w3 (w5.setCell ⟨w3.heap.size, 2, none⟩ (.slice va ft.length vc)) w3.heap.size b bt (.slice va ft.length vc) ft) := q5; clear q1 q2 q3 q5)
                  | (go_simp; go_at_call 43; refine (HCi.out _ (Bx2.at_ (w := w) (b := b) (bt := bt) (v := .slice a n c) (b' := 0) (bt' := 0) (v' := .slice none 0 0) (HLow.out _ ((Below.refl _ _).alloc (Nat.le_refl _) _).drew)).2).mono ?_; rintro e w4 ⟨⟨ra, rc, rfl, HE4⟩, HB⟩; have HO4 : Hid (Ob w w3 w4 w3.heap.size b bt (.slice none 0 0) [] ∧ EnsV w4 (fun g => g < w.heap.size ∨ (w3.alloc (.cells #[.int .i64 b, .int .i64 bt, .slice none 0 0] 24)).drew.heap.size + 1 ≤ g) ra rc ft ∧ ∀ g, (g < w.heap.size ∨ (w3.alloc (.cells #[.int .i64 b, .int .i64 bt, .slice none 0 0] 24)).drew.heap.size + 1 ≤ g) → g < w4.heap.size → So w w3.heap.size g ∧ (Value.slice none 0 0).ownBlock ≠ some g) := ⟨(HO.out.below (Below.refl _ _).drew).below HB, HE4, fun g hg _ => ⟨by rcases hg with q | q; exact .inl q; exact .inr (by have e9 : (w3.alloc (.cells #[.int .i64 b, .int .i64 bt, .slice none 0 0] 24)).drew.heap.size = w3.heap.size + 1 := size_alloc _ _; omega), fun e => by cases e⟩⟩; obtain ⟨y5, y6, y7, y8⟩ := HO4.out.1.c; clear HB HE4; go_wp2_with fail))
                all_goals (
                  obtain ⟨wq, hwq⟩ : ∃ wq, w5.setCell ⟨w3.heap.size, 2, none⟩ (.slice va ft.length vc) = wq := ⟨_, rfl⟩
                  rw [hwq] at HO5 ⊢
                  clear hwq z0 z1 z2 z3 y5 y6 y7 y8 HO4 HO
                  obtain ⟨m0, m1, m2, m3⟩ := HO5.out.c
                  have HKq : Hid (Below (w.heap.size + 1 + 1) ((w.alloc (.cells #[.int .i64 b, .int .i64 bt, .slice a n c] 24)).alloc (.cells #[.int .i64 0, .int .i64 0, .slice none 0 0] 24)) wq) := HLowO.out wq HO5.out.kb HO5.out.hi
                  obtain ⟨⟨⟨mk0, mk1, mk2, mk3⟩, ⟨mk4, mk5, mk6, mk7⟩⟩, _⟩ := Bx2.at_ (w := w) (b := b) (bt := bt) (v := .slice a n c) (b' := 0) (bt' := 0) (v' := .slice none 0 0) HKq.out; have mkl : w.heap.size + 1 < _ := World.block_lt_of_cell? _ _ mk4
                  have HOd : Hid (Ob w w3 wq.drew w3.heap.size b bt (.slice va ft.length vc) ft) := HO5.out.below (Below.refl _ _).drew
                  have HEd : Hid (EnsV wq.drew (fun g => g < w.heap.size) (some ⟨g, o + i * 2, none⟩) (rc0 - i) rt) := HRi.out _ (Bx2.at_ (w := w) (b := b) (bt := bt) (v := .slice a n c) (b' := 0) (bt' := 0) (v' := .slice none 0 0) HKq.out.drew).2
                  go_wp2
                  go_region_law (first
                    | (refine step_app (B := w3.heap.size + 1) (S := So w w3.heap.size) rfl _ _ rfl HOd.out.g HEd.out (by have := HLs.out.2; omega) (fun g hg _ => ⟨.inl hg, fun e => by have := (HOd.out.g.own g e).1; omega⟩) HOd.out.hi rfl rfl (by have := HLs.out.1; have := HLs.out.2; omega) ?_; intro v6 w6 q1 q2 q3; obtain ⟨⟨n0, n1, n2a, n3⟩, q5⟩ := HOd.out.add q1 q2; rw [HJi.out] at q1 q5; obtain ⟨vb, vd, hv⟩ := q1.form; subst hv; have HO6 : Hid (Ob w w3 (w6.setCell ⟨w3.heap.size, 2, none⟩ (.slice vb jl.length vd)) w3.heap.size b bt (.slice vb jl.length vd) jl) := q5; clear q1 q2 q3 q5))
                  all_goals (
                    obtain ⟨wz, hwz⟩ : ∃ wz, w6.setCell ⟨w3.heap.size, 2, none⟩ (.slice vb jl.length vd) = wz := ⟨_, rfl⟩
                    rw [hwz] at HO6 ⊢
                    clear hwz n0 n1 n2a n3 m0 m1 m2 m3 HOd HEd mk0 mk1 mk2 mk3 mk4 mk5 mk6 mk7 mkl
                    obtain ⟨m0, m1, m2, m3⟩ := HO6.out.c
                    have HKz : Hid (Below (w.heap.size + 1 + 1) ((w.alloc (.cells #[.int .i64 b, .int .i64 bt, .slice a n c] 24)).alloc (.cells #[.int .i64 0, .int .i64 0, .slice none 0 0] 24)) wz) := HLowO.out wz HO6.out.kb HO6.out.hi
                    obtain ⟨⟨⟨mz0, mz1, mz2, mz3⟩, ⟨mz4, mz5, mz6, mz7⟩⟩, _⟩ := Bx2.at_ (w := w) (b := b) (bt := bt) (v := .slice a n c) (b' := 0) (bt' := 0) (v' := .slice none 0 0) HKz.out; have mzl : w.heap.size + 1 < _ := World.block_lt_of_cell? _ _ mz4
                    have HEz : Hid (EnsV wz (fun g => So w w3.heap.size g ∨ w3.heap.size + 1 ≤ g) vb vd jl) := HO6.out.g.reads.2
                    go_wp2
                    obtain ⟨e0, e1, e2, _⟩ := boxed (w0 := w) (v0 := .int .i64 b) (v1 := .int .i64 bt) (v2 := .slice vb jl.length vd) (Bx2.at_ (w := w) (b := b) (bt := bt) (v := .slice a n c) (b' := 0) (bt' := 0) (v' := .slice none 0 0) HKz.out).1.g
                    exact bodyPost_ret (v := .tuple #[.agg #[.int .i64 b, .int .i64 bt, .slice vb jl.length vd], .int .i64 (b + (rn : Int)), .bool true]) (by simp [results, Try.results29, go_sem, e0, e1, e2]) rfl (HGj.out _ _ _ _ (boxed_ens HEz.out (fun g hg => ⟨by rcases hg with (q | q) | q <;> omega, trivial⟩)) (boxed_below (Bx2.at_ (w := w) (b := b) (bt := bt) (v := .slice a n c) (b' := 0) (bt' := 0) (v' := .slice none 0 0) HKz.out).2 (Nat.le_succ _))))))
          · have HJ3 : Hid (es = jl) := HJ2.out fun j hj => HR.out.2 j (by omega)
            have HK3 : Hid (Below (w.heap.size + 1 + 1) ((w.alloc (.cells #[.int .i64 b, .int .i64 bt, .slice a n c] 24)).alloc (.cells #[.int .i64 0, .int .i64 0, .slice none 0 0] 24)) wr) := HR.out.1
            have HGl : Hid (∀ w', Below w.heap.size w w' → RPutP b bt (jl, b + (rn : Int), true) w (.returned (.tuple #[.agg #[.int .i64 b, .int .i64 bt, .slice a n c], .int .i64 (b + (rn : Int)), .bool true])) w') := fun w' h => HJ3.out ▸ ⟨a, c, by rw [hnl], HEl.out w' h, h⟩
            clear HR HCr HTf HJ HJ2 HRd HJ3 HCt HLe HLr
            go_wp2
            obtain ⟨e0, e1, e2, _⟩ := boxed (w0 := w) (v0 := .int .i64 b) (v1 := .int .i64 bt) (v2 := .slice a n c) (Bx2.at_ (w := w) (b := b) (bt := bt) (v := .slice a n c) (b' := 0) (bt' := 0) (v' := .slice none 0 0) HK3.out).1.g
            exact bodyPost_ret (v := .tuple #[.agg #[.int .i64 b, .int .i64 bt, .slice a n c], .int .i64 (b + (rn : Int)), .bool true]) (by simp [results, Try.results29, go_sem, e0, e1, e2]) rfl (HGl.out _ (boxed_below (Bx2.at_ (w := w) (b := b) (bt := bt) (v := .slice a n c) (b' := 0) (bt' := 0) (v' := .slice none 0 0) HK3.out).2 (Nat.le_succ _)))
  · rw [show putM b bt es p t r = put2M b bt es p t r by unfold putM; rw [if_neg c0]]
    have HT : Hid (∀ wx, Below w.heap.size w wx → Calls Try.prog 18 #[.agg #[.int .i64 b, .int .i64 bt, .slice a es.length c], .int .i64 p] wx fun e w' => e = .returned (.tuple #[.int .i64 (termM b bt es p).1, .bool (termM b bt es p).2]) ∧ Below wx.heap.size wx w') := fun wx h => HTe.out p wx ⟨by omega, by omega⟩ h
    cases hf : (termM b bt es p).2 with
    | false =>
      rw [put2_none hf]
      rw [hf] at HT
      generalize (termM b bt es p).1 = x at *
      generalize r.length = n2 at *
      generalize hnl : es.length = n at *
      have HG : Hid (∀ w', Below w.heap.size w w' → RPutP b bt (es, (b + (n : Int)), false) w (.returned (.tuple #[.agg #[.int .i64 b, .int .i64 bt, .slice a n c], .int .i64 (b + (n : Int)), .bool false])) w') := fun w' h => ⟨a, c, by rw [hnl], HEl.out w' h, h⟩
      clear hE hR HTe HHi HCt
      go_enter Try.func29, Try.ntmps29
      go_wp2_with (go_at_call 18; refine (HT.out _ (Bx2.at_ (w := w) (b := b) (bt := bt) (v := .slice a n c) (b' := 0) (bt' := 0) (v' := .slice none 0 0) (Below.refl _ _)).2).mono ?_; rintro e w1 ⟨rfl, HB⟩; have H1 : Hid (Below (w.heap.size + 1 + 1) ((w.alloc (.cells #[.int .i64 b, .int .i64 bt, .slice a n c] 24)).alloc (.cells #[.int .i64 0, .int .i64 0, .slice none 0 0] 24)) w1) := two_up (Below.refl _ _) HB; obtain ⟨⟨⟨ka0, ka1, ka2, ka3⟩, ⟨ka4, ka5, ka6, ka7⟩⟩, _⟩ := Bx2.at_ (w := w) (b := b) (bt := bt) (v := .slice a n c) (b' := 0) (bt' := 0) (v' := .slice none 0 0) H1.out; have kal : w.heap.size + 1 < _ := World.block_lt_of_cell? _ _ ka4; clear HB)
      have H1d : Hid (Below (w.heap.size + 1 + 1) ((w.alloc (.cells #[.int .i64 b, .int .i64 bt, .slice a n c] 24)).alloc (.cells #[.int .i64 0, .int .i64 0, .slice none 0 0] 24)) w1.drew) := H1.out.drew
      go_region_held3 (fun w' => w'.cell? ⟨w.heap.size, 0, none⟩ = some (.int .i64 b) ∧ w'.cell? ⟨w.heap.size, 1, none⟩ = some (.int .i64 bt) ∧ w'.cell? ⟨w.heap.size, 2, none⟩ = some (.slice a n c)) (go_keep) (first
        | (go_at_call 19; refine (HLa.out _).mono ?_; rintro e w5 ⟨rfl, HB⟩; have H5 : Hid (Below (w.heap.size + 1 + 1) ((w.alloc (.cells #[.int .i64 b, .int .i64 bt, .slice a n c] 24)).alloc (.cells #[.int .i64 0, .int .i64 0, .slice none 0 0] 24)) w5) := two_up H1d.out HB; obtain ⟨⟨⟨ke0, ke1, ke2, ke3⟩, ⟨ke4, ke5, ke6, ke7⟩⟩, _⟩ := Bx2.at_ (w := w) (b := b) (bt := bt) (v := .slice a n c) (b' := 0) (bt' := 0) (v' := .slice none 0 0) H5.out; have kel : w.heap.size + 1 < _ := World.block_lt_of_cell? _ _ ke4; clear HB))
      go_wp2
      obtain ⟨e0, e1, e2, _⟩ := boxed (w0 := w) (v0 := .int .i64 b) (v1 := .int .i64 bt) (v2 := .slice a n c) (Bx2.at_ (w := w) (b := b) (bt := bt) (v := .slice a n c) (b' := 0) (bt' := 0) (v' := .slice none 0 0) H5.out).1.g
      exact bodyPost_ret (v := .tuple #[.agg #[.int .i64 b, .int .i64 bt, .slice a n c], .int .i64 (b + (n : Int)), .bool false]) (by simp [results, Try.results29, go_sem, e0, e1, e2]) rfl (HG.out _ (boxed_below (Bx2.at_ (w := w) (b := b) (bt := bt) (v := .slice a n c) (b' := 0) (bt' := 0) (v' := .slice none 0 0) H5.out).2 (Nat.le_succ _)))
    | true =>
      obtain ⟨w8, w9⟩ := term_where hf
      rw [hf] at HT
      by_cases hx : (termM b bt es p).1 = t
      · obtain ⟨kf, hkf⟩ : ∃ kf, (p - b).toNat = kf := ⟨_, rfl⟩
        rw [put2_yes hf hx, hkf]
        have hpf : p = b + (kf : Int) := by omega
        have hkl : kf ≤ es.length := by omega
        rw [hx] at HT
        have HTf : Hid (∀ (i : Nat) wx, Below w.heap.size w wx → (i < (es.drop kf).length → Calls Try.prog 18 #[.agg #[.int .i64 b, .int .i64 bt, .slice a es.length c], .int .i64 (p + 1 + (i : Int))] wx fun e w' => e = .returned (.tuple #[.int .i64 (tOf (es.drop kf) i), .bool true]) ∧ Below wx.heap.size wx w') ∧ (i ≤ r.length → ¬ i < (es.drop kf).length → Calls Try.prog 18 #[.agg #[.int .i64 b, .int .i64 bt, .slice a es.length c], .int .i64 (p + 1 + (i : Int))] wx fun e w' => e = .returned (.tuple #[.int .i64 0, .bool false]) ∧ Below wx.heap.size wx w')) := fun i wx h => by
          rw [List.length_drop]
          refine ⟨fun hi => ?_, fun hi2 hi => ?_⟩
          · have := HTe.out (p + 1 + (i : Int)) wx ⟨by omega, by omega⟩ h
            rw [term_in (by omega) (by omega), show (p + 1 + (i : Int) - b - 1).toNat = kf + i by omega, ← tOf_drop] at this
            exact this
          · have := HTe.out (p + 1 + (i : Int)) wx ⟨by omega, by omega⟩ h
            rw [term_out (by omega)] at this
            exact this
        have HJ : Hid (∀ i, (∀ j, j < i → j < (es.drop kf).length ∧ tOf (es.drop kf) j = tOf r j) → i < r.length → ((es.drop kf).length ≤ i ∨ tOf (es.drop kf) i ≠ tOf r i) → es.take (kf + i) ++ (r).drop i = es.take kf ++ tailM (es.drop kf) r) := fun i h1 h2 h3 => join_at h1 h2 h3
        have HJ2 : Hid ((∀ j, j < r.length → j < (es.drop kf).length ∧ tOf (es.drop kf) j = tOf r j) → es = es.take kf ++ tailM (es.drop kf) r) := fun q => join_all q
        have HLe : Hid (∀ k, k ≤ es.length → (es.take k).length = k) := fun k hk => by rw [List.length_take]; omega
        have HLr : Hid (∀ i, ((r).drop i).length = r.length - i) := fun i => List.length_drop
        have hstl : (es.drop kf).length = es.length - kf := List.length_drop
        have HCr : Hid (∀ wr i, Below w.heap.size w wr → i < r.length → ∃ g o, a2 = some ⟨g, o, none⟩ ∧ wr.cell? ⟨g, o + i * 2, none⟩ = some (.int .i64 (tOf r i)) ∧ g < wr.heap.size) := fun wr i h hi => by
          obtain ⟨g, o, ka, kc, q1, q2, q3, q4, q5, q6, _⟩ := (hR.below h).at_ hi
          exact ⟨g, o, q1, q2, q6⟩
        have HRd : Hid (∀ i g o, i < r.length → a2 = some ⟨g, o, none⟩ → ∀ wx, Below w.heap.size w wx → EnsV wx (fun g => g < w.heap.size) (some ⟨g, o + i * 2, none⟩) (c2 - i) (r.drop i)) := fun i g o hi ha wx h => by
          have e2 := (hR.low.below h).dropN (k := i) (by omega) (by omega)
          rw [ha, Option.map_some, add2] at e2
          exact e2
        generalize hjl : es.take kf ++ tailM (es.drop kf) r = jl at *
        generalize es.drop kf = st at *
        clear hE hR hjl hx hf HHi HTe HLa
        generalize r.length = n2 at *
        generalize hnl : es.length = n at *
        have HPf : Hid (p = b + (kf : Int)) := hpf
        clear hpf
        go_enter Try.func29, Try.ntmps29
        go_wp2_with (go_at_call 18; refine (HT.out _ (Bx2.at_ (w := w) (b := b) (bt := bt) (v := .slice a n c) (b' := 0) (bt' := 0) (v' := .slice none 0 0) (Below.refl _ _)).2).mono ?_; rintro e w1 ⟨rfl, HB⟩; have H1 : Hid (Below (w.heap.size + 1 + 1) ((w.alloc (.cells #[.int .i64 b, .int .i64 bt, .slice a n c] 24)).alloc (.cells #[.int .i64 0, .int .i64 0, .slice none 0 0] 24)) w1) := two_up (Below.refl _ _) HB; obtain ⟨⟨⟨ka0, ka1, ka2, ka3⟩, ⟨ka4, ka5, ka6, ka7⟩⟩, _⟩ := Bx2.at_ (w := w) (b := b) (bt := bt) (v := .slice a n c) (b' := 0) (bt' := 0) (v' := .slice none 0 0) H1.out; have kal : w.heap.size + 1 < _ := World.block_lt_of_cell? _ _ ka4; clear HB)
        go_loopw [17] (fun y wr => ∃ (i : Nat), i ≤ n2 ∧ y = .int .i64 i ∧ Hid (Below (w.heap.size + 1 + 1) ((w.alloc (.cells #[.int .i64 b, .int .i64 bt, .slice a n c] 24)).alloc (.cells #[.int .i64 0, .int .i64 0, .slice none 0 0] 24)) wr ∧ ∀ j, j < i → j < st.length ∧ tOf st j = tOf r j)) (fun y _ => n2 - (intOf y).toNat)
        case atStart => exact ⟨0, Nat.zero_le _, rfl, H1.out, fun j hj => absurd hj (Nat.not_lt_zero _)⟩
        case round =>
          clear ka0 ka1 ka2 ka3 ka4 ka5 ka6 ka7 kal
          obtain ⟨i, hi, rfl, HR⟩ := hrel
          obtain ⟨⟨⟨kb0, kb1, kb2, kb3⟩, ⟨kb4, kb5, kb6, kb7⟩⟩, _⟩ := Bx2.at_ (w := w) (b := b) (bt := bt) (v := .slice a n c) (b' := 0) (bt' := 0) (v' := .slice none 0 0) HR.out.1; have kbl : w.heap.size + 1 < _ := World.block_lt_of_cell? _ _ kb4
          by_cases hlt : i < n2
          · obtain ⟨g, o, x1, x2, x4⟩ := HCr.out wr i (Bx2.at_ (w := w) (b := b) (bt := bt) (v := .slice a n c) (b' := 0) (bt' := 0) (v' := .slice none 0 0) HR.out.1).2 hlt
            have hil : i ≤ st.length := Nat.le_of_not_lt fun q => Nat.lt_irrefl _ (HR.out.2 st.length q).1
            have hF1 : p + 1 + (i : Int) ≤ 4398046511999 := by omega
            have HKr : Hid (Below (w.heap.size + 1 + 1) ((w.alloc (.cells #[.int .i64 b, .int .i64 bt, .slice a n c] 24)).alloc (.cells #[.int .i64 0, .int .i64 0, .slice none 0 0] 24)) wr) := HR.out.1
            by_cases hd : i < st.length ∧ tOf st i = tOf r i
            · have HQ : Hid (∀ j, j < i + 1 → j < st.length ∧ tOf st j = tOf r j) := fun j hj => by
                by_cases e : j = i
                · subst e; exact hd
                · exact HR.out.2 j (by omega)
              have HT2 : Hid (Calls Try.prog 18 #[.agg #[.int .i64 b, .int .i64 bt, .slice a n c], .int .i64 (p + 1 + (i : Int))] wr fun e w' => e = .returned (.tuple #[.int .i64 (tOf r i), .bool true]) ∧ Below wr.heap.size wr w') := by
                have := (HTf.out i wr (Bx2.at_ (w := w) (b := b) (bt := bt) (v := .slice a n c) (b' := 0) (bt' := 0) (v' := .slice none 0 0) HR.out.1).2).1 hd.1
                rw [hd.2] at this
                exact this
              clear HR HCr HTf HJ HJ2 HRd hd HLe HLr
              subst x1
              generalize tOf r i = u at *
              go_wp2_with (go_at_call 18; refine HT2.out.mono ?_; rintro e w3 ⟨rfl, HB⟩; have H3 : Hid (Below (w.heap.size + 1 + 1) ((w.alloc (.cells #[.int .i64 b, .int .i64 bt, .slice a n c] 24)).alloc (.cells #[.int .i64 0, .int .i64 0, .slice none 0 0] 24)) w3) := two_up HKr.out HB; obtain ⟨⟨⟨kc0, kc1, kc2, kc3⟩, ⟨kc4, kc5, kc6, kc7⟩⟩, _⟩ := Bx2.at_ (w := w) (b := b) (bt := bt) (v := .slice a n c) (b' := 0) (bt' := 0) (v' := .slice none 0 0) H3.out; have kcl : w.heap.size + 1 < _ := World.block_lt_of_cell? _ _ kc4; have y2 := (cell_kept (HB.block g x4) (o + i * 2)).trans x2; have y4 : g < w3.heap.size := Nat.lt_of_lt_of_le x4 HB.size; clear HB)
              go_roundw
              case rel => exact ⟨i + 1, by omega, by go_num, H3.out, HQ.out⟩
              case measure => simp [intOf]; omega
            · have HJi : Hid (es.take (kf + i) ++ r.drop i = jl) := HJ.out i HR.out.2 hlt (by by_cases q : i < st.length; exact .inr fun e => hd ⟨q, e⟩; exact .inl (by omega))
              have hki : kf + i ≤ n := by omega
              have HTi : ∃ (u1 : Int) (u2 : Bool), (u2 = true → ¬ u1 = tOf r i) ∧ Calls Try.prog 18 #[.agg #[.int .i64 b, .int .i64 bt, .slice a n c], .int .i64 (p + 1 + (i : Int))] wr fun e w' => e = .returned (.tuple #[.int .i64 u1, .bool u2]) ∧ Below wr.heap.size wr w' := by
                have := HTf.out i wr (Bx2.at_ (w := w) (b := b) (bt := bt) (v := .slice a n c) (b' := 0) (bt' := 0) (v' := .slice none 0 0) HR.out.1).2
                by_cases q : i < st.length
                · exact ⟨_, _, fun _ e => hd ⟨q, e⟩, this.1 q⟩
                · exact ⟨_, _, fun e => (by cases e), this.2 (by omega) q⟩
              obtain ⟨u1, u2, hu, hti⟩ := HTi
              have HT2 : Hid (Calls Try.prog 18 #[.agg #[.int .i64 b, .int .i64 bt, .slice a n c], .int .i64 (p + 1 + (i : Int))] wr fun e w' => e = .returned (.tuple #[.int .i64 u1, .bool u2]) ∧ Below wr.heap.size wr w') := hti
              have hu3 : u2 = false ∨ (u2 = true ∧ (u1 == tOf r i) = false) := by
                cases u2 with
                | false => exact .inl rfl
                | true => exact .inr ⟨rfl, beq_eq_false_iff_ne.2 (hu rfl)⟩
              have HCi : Hid (∀ wx, Below w.heap.size w wx → Calls Try.prog 43 #[.agg #[.int .i64 b, .int .i64 bt, .slice a n c], .int .i64 (p + (i : Int))] wx fun e w' => (∃ ra rc, e = .returned (.slice ra (kf + i) rc) ∧ EnsV w' (fun g => g < w.heap.size ∨ wx.heap.size + 1 ≤ g) ra rc (es.take (kf + i))) ∧ Below wx.heap.size wx w') := fun wx h => by
                have hpf := HPf.out
                have := HCt.out (p + (i : Int)) wx (by omega) (by omega) h
                rw [show (p + (i : Int) - b).toNat = kf + i by omega] at this
                exact this
              have HRi : Hid (∀ wx, Below w.heap.size w wx → EnsV wx (fun g => g < w.heap.size) (some ⟨g, o + i * 2, none⟩) (c2 - i) (r.drop i)) := HRd.out i g o hlt x1
              have HLs : Hid ((es.take (kf + i)).length = kf + i ∧ (r.drop i).length = n2 - i) := ⟨HLe.out _ hki, HLr.out i⟩
              have HGj : Hid (∀ (q : Int) (ra : Option Addr) (rc : Nat) w', EnsV w' (fun _ => True) ra rc jl → Below w.heap.size w w' → RPutP b bt (jl, q, true) w (.returned (.tuple #[.agg #[.int .i64 b, .int .i64 bt, .slice ra jl.length rc], .int .i64 q, .bool true])) w') := fun q ra rc w' h1 h2 => ⟨ra, rc, rfl, h1, h2⟩
              clear hti hu HR HCr HTf HJ HJ2 hd HCt HRd HLe HLr
              subst x1
              have hw9 : IntKind.i64.wrap (p + (i : Int)) = p + (i : Int) := by rw [IntKind.wrap_i64]; omega
              have hci : ¬ c2 = i := by omega
              have hb9 : (i : Int) ≤ ((c2 : Nat) : Int) := by omega
              have hb8 : (i : Int) ≤ ((n2 : Nat) : Int) := by omega
              generalize tOf r i = u at *
              generalize es.take (kf + i) = ft at *
              generalize r.drop i = rt at *
              rcases hu3 with rfl | ⟨rfl, hu4⟩
              all_goals (
                go_wp2_with (go_at_call 18; refine HT2.out.mono ?_; rintro e w3 ⟨rfl, HB⟩; have H3 : Hid (Below (w.heap.size + 1 + 1) ((w.alloc (.cells #[.int .i64 b, .int .i64 bt, .slice a n c] 24)).alloc (.cells #[.int .i64 0, .int .i64 0, .slice none 0 0] 24)) w3) := two_up HKr.out HB; obtain ⟨⟨⟨kc0, kc1, kc2, kc3⟩, ⟨kc4, kc5, kc6, kc7⟩⟩, _⟩ := Bx2.at_ (w := w) (b := b) (bt := bt) (v := .slice a n c) (b' := 0) (bt' := 0) (v' := .slice none 0 0) H3.out; have kcl : w.heap.size + 1 < _ := World.block_lt_of_cell? _ _ kc4; have y2 := (cell_kept (HB.block g x4) (o + i * 2)).trans x2; have y4 : g < w3.heap.size := Nat.lt_of_lt_of_le x4 HB.size; clear HB)
                have HO : Hid (Ob w w3 (w3.alloc (.cells #[.int .i64 b, .int .i64 bt, .slice none 0 0] 24)) w3.heap.size b bt (.slice none 0 0) []) := Ob.new w w3 b bt (Bx2.at_ (w := w) (b := b) (bt := bt) (v := .slice a n c) (b' := 0) (bt' := 0) (v' := .slice none 0 0) H3.out).2.size
                have hs3 : w.heap.size < w3.heap.size := by omega
                have hs4 : w.heap.size + 1 < w3.heap.size := by omega
                have HLow : Hid (∀ wx, Below w3.heap.size w3 wx → Below (w.heap.size + 1 + 1) ((w.alloc (.cells #[.int .i64 b, .int .i64 bt, .slice a n c] 24)).alloc (.cells #[.int .i64 0, .int .i64 0, .slice none 0 0] 24)) wx) := fun wx h => two_up H3.out h
                have HLowO : Hid (∀ wx, Below w3.heap.size w3 wx → w3.heap.size + 1 ≤ wx.heap.size → Below (w.heap.size + 1 + 1) ((w.alloc (.cells #[.int .i64 b, .int .i64 bt, .slice a n c] 24)).alloc (.cells #[.int .i64 0, .int .i64 0, .slice none 0 0] 24)) wx) := fun wx h h2 => H3.out.trans (h.mono (by omega))
                go_region_law (first
                  | (refine step_app (B := w3.heap.size + 1) (S := So w w3.heap.size) (ts := []) (v := .slice none 0 0) rfl _ _ rfl (HO4.out.1.g) HO4.out.2.1 (by have := HLs.out.1; omega) HO4.out.2.2 HO4.out.1.hi rfl rfl (by have := HLs.out.1; simp only [List.length_nil]; omega) ?_; intro v5 w5 q1 q2 q3; obtain ⟨⟨z0, z1, z2, z3⟩, q5⟩ := HO4.out.1.add q1 q2; rw [List.nil_append] at q1 q5; obtain ⟨va, vc, hv⟩ := q1.form; subst hv; have HO5 : Hid (Ob w w3 (w5.setCell ⟨w3.heap.size, 2, none⟩ (.slice va ft.length vc)) w3.heap.size b bt (.slice va ft.length vc) ft) := q5; clear q1 q2 q3 q5)
                  | (go_simp; go_at_call 43; refine (HCi.out _ (Bx2.at_ (w := w) (b := b) (bt := bt) (v := .slice a n c) (b' := 0) (bt' := 0) (v' := .slice none 0 0) (HLow.out _ ((Below.refl _ _).alloc (Nat.le_refl _) _).drew)).2).mono ?_; rintro e w4 ⟨⟨ra, rc, rfl, HE4⟩, HB⟩; have HO4 : Hid (Ob w w3 w4 w3.heap.size b bt (.slice none 0 0) [] ∧ EnsV w4 (fun g => g < w.heap.size ∨ (w3.alloc (.cells #[.int .i64 b, .int .i64 bt, .slice none 0 0] 24)).drew.heap.size + 1 ≤ g) ra rc ft ∧ ∀ g, (g < w.heap.size ∨ (w3.alloc (.cells #[.int .i64 b, .int .i64 bt, .slice none 0 0] 24)).drew.heap.size + 1 ≤ g) → g < w4.heap.size → So w w3.heap.size g ∧ (Value.slice none 0 0).ownBlock ≠ some g) := ⟨(HO.out.below (Below.refl _ _).drew).below HB, HE4, fun g hg _ => ⟨by rcases hg with q | q; exact .inl q; exact .inr (by have e9 : (w3.alloc (.cells #[.int .i64 b, .int .i64 bt, .slice none 0 0] 24)).drew.heap.size = w3.heap.size + 1 := size_alloc _ _; omega), fun e => by cases e⟩⟩; obtain ⟨y5, y6, y7, y8⟩ := HO4.out.1.c; clear HB HE4; go_wp2_with fail))
                all_goals (
                  obtain ⟨wq, hwq⟩ : ∃ wq, w5.setCell ⟨w3.heap.size, 2, none⟩ (.slice va ft.length vc) = wq := ⟨_, rfl⟩
                  rw [hwq] at HO5 ⊢
                  clear hwq z0 z1 z2 z3 y5 y6 y7 y8 HO4 HO
                  obtain ⟨m0, m1, m2, m3⟩ := HO5.out.c
                  have HKq : Hid (Below (w.heap.size + 1 + 1) ((w.alloc (.cells #[.int .i64 b, .int .i64 bt, .slice a n c] 24)).alloc (.cells #[.int .i64 0, .int .i64 0, .slice none 0 0] 24)) wq) := HLowO.out wq HO5.out.kb HO5.out.hi
                  obtain ⟨⟨⟨mk0, mk1, mk2, mk3⟩, ⟨mk4, mk5, mk6, mk7⟩⟩, _⟩ := Bx2.at_ (w := w) (b := b) (bt := bt) (v := .slice a n c) (b' := 0) (bt' := 0) (v' := .slice none 0 0) HKq.out; have mkl : w.heap.size + 1 < _ := World.block_lt_of_cell? _ _ mk4
                  have HOd : Hid (Ob w w3 wq.drew w3.heap.size b bt (.slice va ft.length vc) ft) := HO5.out.below (Below.refl _ _).drew
                  have HEd : Hid (EnsV wq.drew (fun g => g < w.heap.size) (some ⟨g, o + i * 2, none⟩) (c2 - i) rt) := HRi.out _ (Bx2.at_ (w := w) (b := b) (bt := bt) (v := .slice a n c) (b' := 0) (bt' := 0) (v' := .slice none 0 0) HKq.out.drew).2
                  go_wp2
                  go_region_law (first
                    | (refine step_app (B := w3.heap.size + 1) (S := So w w3.heap.size) rfl _ _ rfl HOd.out.g HEd.out (by have := HLs.out.2; omega) (fun g hg _ => ⟨.inl hg, fun e => by have := (HOd.out.g.own g e).1; omega⟩) HOd.out.hi rfl rfl (by have := HLs.out.1; have := HLs.out.2; omega) ?_; intro v6 w6 q1 q2 q3; obtain ⟨⟨n0, n1, n2a, n3⟩, q5⟩ := HOd.out.add q1 q2; rw [HJi.out] at q1 q5; obtain ⟨vb, vd, hv⟩ := q1.form; subst hv; have HO6 : Hid (Ob w w3 (w6.setCell ⟨w3.heap.size, 2, none⟩ (.slice vb jl.length vd)) w3.heap.size b bt (.slice vb jl.length vd) jl) := q5; clear q1 q2 q3 q5))
                  all_goals (
                    obtain ⟨wz, hwz⟩ : ∃ wz, w6.setCell ⟨w3.heap.size, 2, none⟩ (.slice vb jl.length vd) = wz := ⟨_, rfl⟩
                    rw [hwz] at HO6 ⊢
                    clear hwz n0 n1 n2a n3 m0 m1 m2 m3 HOd HEd mk0 mk1 mk2 mk3 mk4 mk5 mk6 mk7 mkl
                    obtain ⟨m0, m1, m2, m3⟩ := HO6.out.c
                    have HKz : Hid (Below (w.heap.size + 1 + 1) ((w.alloc (.cells #[.int .i64 b, .int .i64 bt, .slice a n c] 24)).alloc (.cells #[.int .i64 0, .int .i64 0, .slice none 0 0] 24)) wz) := HLowO.out wz HO6.out.kb HO6.out.hi
                    obtain ⟨⟨⟨mz0, mz1, mz2, mz3⟩, ⟨mz4, mz5, mz6, mz7⟩⟩, _⟩ := Bx2.at_ (w := w) (b := b) (bt := bt) (v := .slice a n c) (b' := 0) (bt' := 0) (v' := .slice none 0 0) HKz.out; have mzl : w.heap.size + 1 < _ := World.block_lt_of_cell? _ _ mz4
                    have HEz : Hid (EnsV wz (fun g => So w w3.heap.size g ∨ w3.heap.size + 1 ≤ g) vb vd jl) := HO6.out.g.reads.2
                    go_wp2
                    obtain ⟨e0, e1, e2, _⟩ := boxed (w0 := w) (v0 := .int .i64 b) (v1 := .int .i64 bt) (v2 := .slice vb jl.length vd) (Bx2.at_ (w := w) (b := b) (bt := bt) (v := .slice a n c) (b' := 0) (bt' := 0) (v' := .slice none 0 0) HKz.out).1.g
                    exact bodyPost_ret (v := .tuple #[.agg #[.int .i64 b, .int .i64 bt, .slice vb jl.length vd], .int .i64 (p + (n2 : Int)), .bool true]) (by simp [results, Try.results29, go_sem, e0, e1, e2]) rfl (HGj.out _ _ _ _ (boxed_ens HEz.out (fun g hg => ⟨by rcases hg with (q | q) | q <;> omega, trivial⟩)) (boxed_below (Bx2.at_ (w := w) (b := b) (bt := bt) (v := .slice a n c) (b' := 0) (bt' := 0) (v' := .slice none 0 0) HKz.out).2 (Nat.le_succ _))))))
          · have HJ3 : Hid (es = jl) := HJ2.out fun j hj => HR.out.2 j (by omega)
            have HK3 : Hid (Below (w.heap.size + 1 + 1) ((w.alloc (.cells #[.int .i64 b, .int .i64 bt, .slice a n c] 24)).alloc (.cells #[.int .i64 0, .int .i64 0, .slice none 0 0] 24)) wr) := HR.out.1
            have HGl : Hid (∀ w', Below w.heap.size w w' → RPutP b bt (jl, p + (n2 : Int), true) w (.returned (.tuple #[.agg #[.int .i64 b, .int .i64 bt, .slice a n c], .int .i64 (p + (n2 : Int)), .bool true])) w') := fun w' h => HJ3.out ▸ ⟨a, c, by rw [hnl], HEl.out w' h, h⟩
            clear HR HCr HTf HJ HJ2 HRd HJ3 HCt HLe HLr
            go_wp2
            obtain ⟨e0, e1, e2, _⟩ := boxed (w0 := w) (v0 := .int .i64 b) (v1 := .int .i64 bt) (v2 := .slice a n c) (Bx2.at_ (w := w) (b := b) (bt := bt) (v := .slice a n c) (b' := 0) (bt' := 0) (v' := .slice none 0 0) HK3.out).1.g
            exact bodyPost_ret (v := .tuple #[.agg #[.int .i64 b, .int .i64 bt, .slice a n c], .int .i64 (p + (n2 : Int)), .bool true]) (by simp [results, Try.results29, go_sem, e0, e1, e2]) rfl (HGl.out _ (boxed_below (Bx2.at_ (w := w) (b := b) (bt := bt) (v := .slice a n c) (b' := 0) (bt' := 0) (v' := .slice none 0 0) HK3.out).2 (Nat.le_succ _)))
      · rw [put2_other hf hx]
        have HA : Hid (∀ wx, Below w.heap.size w wx → Calls Try.prog 42 #[.agg #[.int .i64 b, .int .i64 bt, .slice a es.length c], .int .i64 p] wx fun e w' => e = .returned (.int .i64 (b + downM es (termM b bt es p).1 (p - b).toNat)) ∧ Below wx.heap.size wx w') := fun wx h => HHi.out p wx w8 w9 h
        have hx2 : ((termM b bt es p).1 == t) = false := beq_eq_false_iff_ne.2 hx
        generalize b + (downM es (termM b bt es p).1 (p - b).toNat : Int) = d at *
        generalize (termM b bt es p).1 = x at *
        generalize r.length = n2 at *
        generalize hnl : es.length = n at *
        have HG : Hid (∀ w', Below w.heap.size w w' → RPutP b bt (es, d, false) w (.returned (.tuple #[.agg #[.int .i64 b, .int .i64 bt, .slice a n c], .int .i64 d, .bool false])) w') := fun w' h => ⟨a, c, by rw [hnl], HEl.out w' h, h⟩
        clear hE hR HTe HHi HCt hf HLa
        go_enter Try.func29, Try.ntmps29
        go_wp2_with (go_at_call 18; refine (HT.out _ (Bx2.at_ (w := w) (b := b) (bt := bt) (v := .slice a n c) (b' := 0) (bt' := 0) (v' := .slice none 0 0) (Below.refl _ _)).2).mono ?_; rintro e w1 ⟨rfl, HB⟩; have H1 : Hid (Below (w.heap.size + 1 + 1) ((w.alloc (.cells #[.int .i64 b, .int .i64 bt, .slice a n c] 24)).alloc (.cells #[.int .i64 0, .int .i64 0, .slice none 0 0] 24)) w1) := two_up (Below.refl _ _) HB; obtain ⟨⟨⟨ka0, ka1, ka2, ka3⟩, ⟨ka4, ka5, ka6, ka7⟩⟩, _⟩ := Bx2.at_ (w := w) (b := b) (bt := bt) (v := .slice a n c) (b' := 0) (bt' := 0) (v' := .slice none 0 0) H1.out; have kal : w.heap.size + 1 < _ := World.block_lt_of_cell? _ _ ka4; clear HB)
        have H1d : Hid (Below (w.heap.size + 1 + 1) ((w.alloc (.cells #[.int .i64 b, .int .i64 bt, .slice a n c] 24)).alloc (.cells #[.int .i64 0, .int .i64 0, .slice none 0 0] 24)) w1.drew) := H1.out.drew
        go_region_held3 (fun w' => w'.cell? ⟨w.heap.size, 0, none⟩ = some (.int .i64 b) ∧ w'.cell? ⟨w.heap.size, 1, none⟩ = some (.int .i64 bt) ∧ w'.cell? ⟨w.heap.size, 2, none⟩ = some (.slice a n c)) (go_keep) (first
          | (go_at_call 42; refine (HA.out _ (Bx2.at_ (w := w) (b := b) (bt := bt) (v := .slice a n c) (b' := 0) (bt' := 0) (v' := .slice none 0 0) H1d.out).2).mono ?_; rintro e w5 ⟨rfl, HB⟩; have H5 : Hid (Below (w.heap.size + 1 + 1) ((w.alloc (.cells #[.int .i64 b, .int .i64 bt, .slice a n c] 24)).alloc (.cells #[.int .i64 0, .int .i64 0, .slice none 0 0] 24)) w5) := two_up H1d.out HB; obtain ⟨⟨⟨ke0, ke1, ke2, ke3⟩, ⟨ke4, ke5, ke6, ke7⟩⟩, _⟩ := Bx2.at_ (w := w) (b := b) (bt := bt) (v := .slice a n c) (b' := 0) (bt' := 0) (v' := .slice none 0 0) H5.out; have kel : w.heap.size + 1 < _ := World.block_lt_of_cell? _ _ ke4; clear HB))
        go_wp2
        obtain ⟨e0, e1, e2, _⟩ := boxed (w0 := w) (v0 := .int .i64 b) (v1 := .int .i64 bt) (v2 := .slice a n c) (Bx2.at_ (w := w) (b := b) (bt := bt) (v := .slice a n c) (b' := 0) (bt' := 0) (v' := .slice none 0 0) H5.out).1.g
        exact bodyPost_ret (v := .tuple #[.agg #[.int .i64 b, .int .i64 bt, .slice a n c], .int .i64 d, .bool false]) (by simp [results, Try.results29, go_sem, e0, e1, e2]) rfl (HG.out _ (boxed_below (Bx2.at_ (w := w) (b := b) (bt := bt) (v := .slice a n c) (b' := 0) (bt' := 0) (v' := .slice none 0 0) H5.out).2 (Nat.le_succ _)))
end Go.Proofs.Ytmpmbgjdbahmbaa
