/-
  sheet: parts: all from the front to the last mark.
-/
import Derived.Test.YtlnlhhobmgiceaaGreatDoorSrK
set_option linter.unusedVariables false
set_option linter.unusedSimpArgs false
namespace Go.Proofs.YtlnlhhobmgiceaaGreatDoor
open Go.RowKit Go.Shelf
namespace Sr
open Oc Tg Mf

def atOf (w : World) (g : Nat) : Nat := match w.cell? ⟨g, 2, none⟩ with | some (.int _ z) => z.toNat | _ => 0
theorem atOf_SR {w : World} {g a : Nat} {s m : ByteArray} (h : SR w g s m a) : atOf w g = a := by unfold atOf; rw [h.cells.2.2]; simp
theorem SR.belB {w w' : World} {g a B : Nat} {s m : ByteArray} (h : SR w g s m a) (b : Below B w w') (hg : g < B) : SR w' g s m a := by
  unfold SR at *
  rw [b.block g hg]
  exact h
theorem Chg.belB {g : Nat} {w w' w'' : World} (a : Chg g w w') (b : Below w.heap.size w' w'') : Chg g w w'' :=
  ⟨b.os.trans a.os, b.tape.trans a.tape, b.output.trans a.out, Nat.le_trans a.size b.size, fun k h1 h2 => (b.block k h1).trans (a.block k h1 h2)⟩
theorem ownT_chg {T B g : Nat} {v : Value} {t : List Pt.P5} {w w' : World} (h : Pt.OwnT T B v t w) (c : Chg g w w') (hg : g < B) : Pt.OwnT T B v t w' := by
  refine ⟨h.1, ?_⟩
  rcases h.2 with hn | ⟨k, cap, cur, rfl, hb, hk, rest⟩
  · exact .inl hn
  · exact .inr ⟨k, cap, cur, rfl, hb, (c.block k (Array.getElem?_eq_some_iff.1 hk).1 (by omega)).trans hk, rest⟩
theorem ownT_form {T B : Nat} {v : Value} {t : List Pt.P5} {w : World} (h : Pt.OwnT T B v t w) : ∃ a c, v = .slice a t.length c := by
  rcases h.2 with ⟨rfl, h0⟩ | ⟨k, cap, cur, rfl, _⟩
  · exact ⟨none, 0, by rw [h0]⟩
  · exact ⟨_, _, rfl⟩
theorem pre_in (l mk : List UInt8) (h : (preP l mk).1 = none) : (preP l mk).2 + mk.length ≤ l.length := by
  unfold preP at h ⊢
  split
  · rename_i k
    have := pre_len (List.isPrefixOf_iff_prefix.1 k)
    simpa using this
  · rename_i k
    rw [if_neg k] at h
    exact bytP_in l mk l.length h

/-- A part appended to a slice of the call's own, in a row of operations. -/
theorem wp_appT {ops : Array Oper} {rest : List Oper} {o : Oper} {a : Act} {Q : Exit → Act → World → Prop} (T S : Nat) (hinfo : (Tryz.prog.info? T).map (fun i => (i.zero, i.size, i.bytes)) = some (some (.agg #[.string ⟨#[]⟩, .string ⟨#[]⟩, .string ⟨#[]⟩, .string ⟨#[]⟩, .bool false]), 5, 72))
    (hund : Tryz.prog.underlying S = some (.slice T)) (hgd : o.guard = none) (s x : Operand)
    (ho : o.op = .call { callee := .builtin .append, args := #[s, x], argTypes := #[S, S] }) (B : Nat) (v : Value) (t : List Pt.P5) (W : World) (p : Pt.P5)
    (hs : a.eval s = v) (hown : Pt.OwnT T B v t W) (g : Nat) (hx : a.eval x = .slice (some ⟨g, 0, none⟩) 1 1) (hg : g = W.heap.size) (hlen : t.length + 1 ≤ 1073741824) (hB : B ≤ W.heap.size)
    (h : ∀ v' w', Pt.OwnT T B v' (t ++ [p]) w' → Below B W w' → wpList Tryz.prog ops Q rest (a.put o.dst v') w') : wpList Tryz.prog ops Q (o :: rest) a (W.alloc (.cells #[.string (str p.n), .string (str p.f), .string (str p.m), .string (str p.b), .bool p.h] T)) := by
  subst hg
  obtain ⟨i0, hi, hz0, hz1, hz2⟩ := info_parts hinfo
  refine wpList_append_own _ hgd s x S ho B T i0 (.agg #[.string ⟨#[]⟩, .string ⟨#[]⟩, .string ⟨#[]⟩, .string ⟨#[]⟩, .bool false]) 5 72 hund hi hz0 hz1 hz2 rfl (by decide) v t.length _ hs (World.ownsRow.alloc hown _) ⟨W.heap.size, 0, none⟩ 1 1 (Pt.encT1 p) hx rfl ?_ ?_ ?_ ?_ ?_ ?_
  · intro j u hj
    unfold Pt.encT1 at hj
    match j, hj with
    | 0, hj => simp at hj; subst hj; simp [Addr.add]
    | 1, hj => simp at hj; subst hj; simp [Addr.add]
    | 2, hj => simp at hj; subst hj; simp [Addr.add]
    | 3, hj => simp at hj; subst hj; simp [Addr.add]
    | 4, hj => simp at hj; subst hj; simp [Addr.add]
  · intro u hu
    unfold Pt.encT1 at hu
    simp at hu
    rcases hu with rfl | rfl | rfl | rfl | rfl <;> rfl
  · unfold maxLen; omega
  · omega
  · simp; omega
  · intro v' w' h1 h2 _
    refine h v' w' ?_ (((Below.refl B W).alloc hB _).grown h2 (by simp; omega) (fun k hk => (World.ownsRow.lt hown k hk).1))
    unfold Pt.OwnT
    rw [Pt.encT_snoc, List.length_append]
    exact h1

set_option maxRecDepth 100000 in
set_option maxHeartbeats 3000000 in
theorem parts_any (g : Nat) (s : ByteArray) (mk : List UInt8) (most : Nat) (h1 : 1 ≤ most) (hmost : most < 9223372036854775808) (hs : s.size ≤ 1073741820) (hm : mk.length ≤ 4000000) (w0 : World) (hg : w0.heap.size ≤ g) (w : World) (hb : Below w0.heap.size w0 w) (hR : SR w g s (str mk) 0) (ht : Tab w0) (hml : ML w0) (he : Fd.Env w0) :
    Calls Tryz.prog 34 #[.pointer (some ⟨g, 0, none⟩), .int .i64 (most : Int)] w fun e w' => ∃ lv, e = .returned (.tuple #[lv, errV (allP s.data.toList mk most).2]) ∧ Pt.OwnT 49 w.heap.size lv (allP s.data.toList mk most).1 w' ∧ Chg g w w' := by
  have hgw := hR.lt
  have hsl : s.data.toList.length = s.size := size_list s
  have HW : Hid (∀ W, Chg g w W → Below w0.heap.size w0 W) := fun W c => hb.trans (c.below hg hb.size)
  have HPp : Hid (Calls _ _ _ w _) := passPreamble_any g s mk (by omega) hm w hR (hml.below hb)
  have HTk : Hid (∀ (a : Nat) (last : Bool) W, a + mk.length ≤ s.size → SR W g s (str mk) a → Calls _ _ _ W _) := fun a last W h1 h2 => takeMark_any g a mk.length s (str mk) (str_size mk) h1 (by omega) last W h2
  have HPt : Hid (∀ (a : Nat) W, a ≤ s.size → Chg g w W → SR W g s (str mk) a → Calls _ _ _ W _) := fun a W h1 c h2 => part_any g a s mk h1 (by omega) hm W h2 (fun W' c' => hml.below (HW.out _ (c.trans c'))) (fun W' b' => fields_any g a s (str mk) h1 (by omega) W' (h2.below b') (ht.below (HW.out _ (c.bel b')) (Nat.le_refl _)) (hml.below (HW.out _ (c.bel b'))) (he.below (HW.out _ (c.bel b'))))
  have HPi := pre_in s.data.toList mk
  rw [hsl] at HPi
  have HSL : Hid (s.data.toList.length = s.size) := hsl
  have HTi : Hid (∀ a last, a + mk.length ≤ s.size → (tkP s.data.toList a mk.length last).2.1 = none → (tkP s.data.toList a mk.length last).1 = false → a + mk.length + 2 ≤ (tkP s.data.toList a mk.length last).2.2 ∧ (tkP s.data.toList a mk.length last).2.2 ≤ s.size) := (fun a last h1 h2 h3 => by
    have := tkP_in s.data.toList a mk.length last (by rw [hsl]; exact h1) h2 h3
    rw [hsl] at this
    exact this : ∀ a last, _)
  have HTp : Hid (∀ a, a ≤ s.size → (prtP s.data.toList mk a).2.1 = none → a + 2 ≤ (prtP s.data.toList mk a).2.2 ∧ (prtP s.data.toList mk a).2.2 + mk.length ≤ s.size) := (fun a h1 h2 => by
    have := prtP_in s.data.toList mk a (by rw [hsl]; exact h1) h2
    rw [hsl] at this
    exact this : ∀ a, _)
  obtain ⟨R, HRR⟩ : ∃ R, Hid (R = allP s.data.toList mk most) := ⟨_, rfl⟩
  have HRd : Hid (R = _) := HRR.out.trans (by unfold allP; rw [hsl])
  rw [← HRR.out]
  clear HRR hsl hb hR
  generalize hll : s.data.toList = l at *
  clear hll
  generalize hPP : preP l mk = PP at *
  clear hPP
  obtain ⟨pe, pa⟩ := PP
  dsimp only at HPi HRd HPp
  cases pe with
  | some q =>
    obtain ⟨q1, q2⟩ := q
    have HQ : Hid (R = ([], some (q1, q2))) := (by rw [HRd.out, if_pos (by simp)] : R = _)
    clear HRd HTi HTp HTk HPt HPi
    unfold errV at HPp
    dsimp only at HPp
    go_enter Tryz.func34, Tryz.ntmps34
    go_wp2_with fail
    refine HPp.out.mono ?_
    rintro e w1 ⟨rfl, hr1, hc1⟩
    go_wp2
    go_ret2
    rw [HQ.out]
    exact ⟨_, rfl, Pt.ownT_nil _ _ _, hc1⟩
  | none =>
    have HQ0 : Hid (R = prsP l mk most (s.size + 1) [] pa) := (by rw [HRd.out, if_neg (by simp)] : R = _)
    have hpi := HPi rfl
    clear HRd HPi
    have hE0 : errV none = .nilIface := rfl
    go_enter Tryz.func34, Tryz.ntmps34
    go_wp2_with fail
    refine HPp.out.mono ?_
    rintro e w1 ⟨rfl, hr1, hc1⟩
    rw [hE0]
    have HR1 : Hid (SR w1 g s (str mk) pa) := hr1
    have HC1 : Hid (Chg g w w1) := hc1
    clear hr1 hc1 HPp
    go_wp2
    go_loopw [6] (fun lv wr => ∃ (a f : Nat) (acc : List Pt.P5), a + mk.length ≤ s.size ∧ s.size ≤ a + f ∧ acc.length ≤ a ∧ Hid (R = prsP l mk most (f + 1) acc a) ∧ Hid (SR wr g s (str mk) a) ∧ Hid (Pt.OwnT 49 w.heap.size lv acc wr) ∧ Hid (Chg g w wr)) (fun _ wr => s.size + 1 - atOf wr g)
    case atStart => exact ⟨pa, s.size, [], hpi, by omega, by simp, HQ0, HR1, Pt.ownT_nil _ _ _, HC1⟩
    case round =>
      obtain ⟨a, f, acc, hal, haf, hacc, HQ, HRr, HOw, HC⟩ := hrel
      obtain ⟨av, cv, rfl⟩ := ownT_form HOw.out
      obtain ⟨c0, c1, c2⟩ := HRr.out.cells
      have hq := HQ.out
      rw [prsP] at hq
      have HQ2 : Hid (R = _) := hq
      have hTi := HTi.out a (decide (0 < acc.length)) hal
      have HTk1 : Hid (Calls _ _ _ wr _) := HTk.out a (decide (0 < acc.length)) wr hal HRr.out
      clear hq HQ
      generalize tkP l a mk.length (decide (0 < acc.length)) = T at *
      obtain ⟨tl, te, ta⟩ := T
      dsimp only at hTi HTk1 HQ2
      have hdd : decide ((acc.length : Int) > 0) = decide (0 < acc.length) := by simp
      have hgs : g < wr.heap.size := HRr.out.lt
      have hwr : w.heap.size ≤ wr.heap.size := HC.out.size
      have HAt : Hid (atOf wr g = a) := atOf_SR HRr.out
      go_wp2_with fail
      first | rw [hdd] | skip
      refine HTk1.out.mono ?_
      rintro e w2 ⟨rfl, hr2, hc2⟩
      have HR2 : Hid (SR w2 g s (str mk) ta) := hr2
      have HC2 : Hid (Chg g w w2) := HC.out.trans hc2
      have HO2 : Hid (Pt.OwnT 49 w.heap.size (.slice av acc.length cv) acc w2) := ownT_chg HOw.out hc2 hgw
      have hz2 : wr.heap.size ≤ w2.heap.size := hc2.size
      clear hr2 hc2 HTk1 HRr HC HOw c0 c1 c2
      cases te with
      | some q =>
        obtain ⟨q1, q2⟩ := q
        have HQ3 : Hid (R = ([], some (q1, q2))) := (by rw [HQ2.out, if_pos (by simp)] : R = _)
        unfold errV
        dsimp only
        go_wp2
        go_ret2
        rw [HQ3.out]
        exact ⟨_, rfl, Pt.ownT_nil _ _ _, HC2.out⟩
      | none =>
        rw [hE0]
        cases tl with
        | true =>
          have HQ3 : Hid (R = (acc, none)) := (by rw [HQ2.out, if_neg (by simp), if_pos rfl] : R = _)
          go_wp2
          go_ret2
          rw [HQ3.out]
          exact ⟨_, rfl, HO2.out, HC2.out⟩
        | false =>
          obtain ⟨hta, htb⟩ := hTi rfl rfl
          by_cases hmo : acc.length = most
          · have HQ3 : Hid (R = ([], some ((a : Int), 153))) := (by rw [HQ2.out, if_neg (by simp), if_neg (by simp), if_pos hmo] : R = _)
            have hmi : ((acc.length : Int) == (most : Int)) = true := by simp [hmo]
            have hmj : (acc.length : Int) = (most : Int) := by omega
            go_wp2
            go_ret2
            rw [HQ3.out]
            exact ⟨_, rfl, Pt.ownT_nil _ _ _, HC2.out⟩
          · have HQ3 : Hid (R = _) := HQ2.out.trans (by rw [if_neg (by simp), if_neg (by simp), if_neg hmo])
            have hmi : ((acc.length : Int) == (most : Int)) = false := by simp; omega
            have hmj : ¬ (acc.length : Int) = (most : Int) := by omega
            have hTp := HTp.out ta htb
            have HPt1 : Hid (Calls _ _ _ w2 _) := HPt.out ta w2 htb HC2.out HR2.out
            clear HQ2
            generalize prtP l mk ta = Q at *
            obtain ⟨px, pe, pa2⟩ := Q
            dsimp only at hTp HPt1 HQ3
            unfold aggP at HPt1
            go_wp2_with fail
            refine HPt1.out.mono ?_
            rintro e w3 ⟨rfl, hr3, hc3⟩
            obtain ⟨w4, hw4⟩ : ∃ w4, w4 = w3.alloc (.cells #[.string (str px.n), .string (str px.f), .string (str px.m), .string (str px.b), .bool px.h] 49) := ⟨_, rfl⟩
            have hb4 : Below w3.heap.size w3 w4 := by rw [hw4]; exact (Below.refl _ w3).alloc (Nat.le_refl _) _
            have HR4 : Hid (SR w4 g s (str mk) pa2) := hr3.below hb4
            have HC4 : Hid (Chg g w w4) := (HC2.out.trans hc3).bel hb4
            have HO4 : Hid (Pt.OwnT 49 w.heap.size (.slice av acc.length cv) acc w4) := (ownT_chg HO2.out hc3 hgw).below hb4
            have HP4 : Hid (PB w4 w3.heap.size px) := (by rw [hw4]; exact heap_alloc_new w3 _ : PB _ _ _)
            have hz4 : w.heap.size ≤ w4.heap.size := HC4.out.size
            clear hr3 hc3 hb4 HR2 HC2 HO2 HPt1
            obtain ⟨u0', u1', u2', u3', u4'⟩ := HP4.out.cells
            cases pe with
            | some q =>
              obtain ⟨q1, q2⟩ := q
              have HQ4 : Hid (R = ([], some (q1, q2))) := (by rw [HQ3.out, if_pos (by simp)] : R = _)
              unfold errV
              dsimp only
              go_wp2
              rw [← hw4]
              go_ret2
              rw [HQ4.out]
              exact ⟨_, rfl, Pt.ownT_nil _ _ _, HC4.out⟩
            | none =>
              have HQ4 : Hid (R = prsP l mk most f (acc ++ [px]) pa2) := (by rw [HQ3.out, if_neg (by simp)] : R = _)
              obtain ⟨hp1, hp2⟩ := hTp rfl
              rw [hE0]
              have hal5 : acc.length + 1 ≤ 1073741824 := by omega
              have HZ4 : Hid (w.heap.size ≤ w4.heap.size) := hz4
              subst hw4
              go_wp2_with (at_builtin; go_must (refine wp_appT 49 40 Pt.infoT1 Tryz.underlying40 rfl (.tmp 53) (.tmp 55) rfl w.heap.size _ acc _ px (by simp [Act.eval, Act.put]) HO4.out _ (by simp [Act.eval, Act.put]) rfl hal5 HZ4.out ?_; intro v6 w6 hO6 hb6))
              have HR6 : Hid (SR w6 g s (str mk) pa2) := HR4.out.belB hb6 hgw
              have HC6 : Hid (Chg g w w6) := HC4.out.belB hb6
              have HO6 : Hid (Pt.OwnT 49 w.heap.size v6 (acc ++ [px]) w6) := hO6
              clear hO6 hb6 HR4 HC4 HO4 HP4 u0' u1' u2' u3' u4' hz4 HZ4
              go_wp2
              go_roundw
              case rel =>
                obtain ⟨f', rfl⟩ : ∃ f', f = f' + 1 := ⟨f - 1, by omega⟩
                exact ⟨pa2, f', acc ++ [px], hp2, by omega, by rw [List.length_append]; simp; omega, HQ4, HR6, HO6, HC6⟩
              case measure =>
                have hh := atOf_SR HR6.out
                rw [HAt.out, hh]
                omega

end Sr
end Go.Proofs.YtlnlhhobmgiceaaGreatDoor
