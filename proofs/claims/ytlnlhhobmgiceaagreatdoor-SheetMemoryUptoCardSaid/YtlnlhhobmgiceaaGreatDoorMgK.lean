/- Several texts as one. -/
import Derived.Test.YtlnlhhobmgiceaaGreatDoorMgJ
import Derived.Test.YtlnlhhobmgiceaaGreatDoorMgI
/-
  Slices of parameters of the call's own; octet.Params.
-/
set_option linter.unusedVariables false
set_option linter.unusedSimpArgs false
namespace Go.Proofs.YtlnlhhobmgiceaaGreatDoor
open Go.RowKit Go.Shelf
namespace Oc

def enc1 (p : Prm) : List Value := [.string (str p.1), .string (str p.2.1), .bool p.2.2]
def encP (ps : List Prm) : List Value := ps.flatMap enc1
theorem encP_snoc (ps : List Prm) (p : Prm) : encP (ps ++ [p]) = encP ps ++ enc1 p := by unfold encP; rw [List.flatMap_append]; simp
theorem encP_len : ∀ ps : List Prm, (encP ps).length = ps.length * 3
  | [] => rfl
  | p :: ps => by
    have := encP_len ps
    unfold encP at *
    rw [List.flatMap_cons, List.length_append, this, List.length_cons]
    show 3 + _ = _
    omega
/-- A slice of parameters (of the type T) of the call's own. -/
def OwnP (T B : Nat) (v : Value) (ps : List Prm) (w : World) : Prop := w.ownsRow B T 3 v ps.length (encP ps)
theorem ownP_nil (T B : Nat) (w : World) : OwnP T B (.slice none 0 0) [] w := World.ownsRow_nil w B T 3
theorem ownP_empty {B : Nat} (T : Nat) (w : World) (hB : B ≤ w.heap.size) : OwnP T B (.slice (some ⟨w.heap.size, 0, none⟩) 0 0) [] (w.alloc (.cells #[] T)) :=
  ⟨by simp [encP], .inr ⟨w.heap.size, 0, #[], rfl, hB, heap_alloc_new w _, by simp, by decide, by simp, by simp [encP]⟩⟩
theorem OwnP.below {T B : Nat} {v : Value} {t : List Prm} {w w' : World} (h : OwnP T B v t w) (b : Below w.heap.size w w') : OwnP T B v t w' := by
  refine ⟨h.1, ?_⟩
  rcases h.2 with hn | ⟨g, cap, cur, rfl, hb, hg, rest⟩
  · exact .inl hn
  · refine .inr ⟨g, cap, cur, rfl, hb, ?_, rest⟩
    have hlt : g < w.heap.size := by
      rcases Nat.lt_or_ge g w.heap.size with h | h
      · exact h
      · simp [Array.getElem?_eq_none h] at hg
    rw [b.block g hlt]
    exact hg

/-- A parameter appended to a slice of the call's own. -/
theorem wp_appP {ops : Array Oper} {rest : List Oper} {o : Oper} {a : Act} {Q : Exit → Act → World → Prop} (T S : Nat) (hinfo : (Tryz.prog.info? T).map (fun i => (i.zero, i.size, i.bytes)) = some (some (.agg #[.string ⟨#[]⟩, .string ⟨#[]⟩, .bool false]), 3, 40))
    (hund : Tryz.prog.underlying S = some (.slice T)) (hgd : o.guard = none) (s x : Operand)
    (ho : o.op = .call { callee := .builtin .append, args := #[s, x], argTypes := #[S, S] }) (B : Nat) (v : Value) (t : List Prm) (W : World) (p : Prm) (n1 n2 : ByteArray) (h1 : n1 = str p.1) (h2 : n2 = str p.2.1) (b : Bool) (h3 : b = p.2.2)
    (hs : a.eval s = v) (hown : OwnP T B v t W) (g : Nat) (hx : a.eval x = .slice (some ⟨g, 0, none⟩) 1 1) (hg : g = W.heap.size) (hlen : t.length + 1 ≤ 2147483648) (hB : B ≤ W.heap.size)
    (h : ∀ v' w', OwnP T B v' (t ++ [p]) w' → Below B W w' → wpList Tryz.prog ops Q rest (a.put o.dst v') w') : wpList Tryz.prog ops Q (o :: rest) a (W.alloc (.cells #[.string n1, .string n2, .bool b] T)) := by
  subst h1 h2 h3 hg
  obtain ⟨i0, hi, hz0, hz1, hz2⟩ := info_parts hinfo
  refine wpList_append_own _ hgd s x S ho B T i0 (.agg #[.string ⟨#[]⟩, .string ⟨#[]⟩, .bool false]) 3 40 hund hi hz0 hz1 hz2 rfl (by decide) v t.length _ hs (World.ownsRow.alloc hown _) ⟨W.heap.size, 0, none⟩ 1 1 (enc1 p) hx rfl ?_ ?_ ?_ ?_ ?_ ?_
  · intro j u hj
    unfold enc1 at hj
    match j, hj with
    | 0, hj => simp at hj; subst hj; simp [Addr.add]
    | 1, hj => simp at hj; subst hj; simp [Addr.add]
    | 2, hj => simp at hj; subst hj; simp [Addr.add]
  · intro u hu
    unfold enc1 at hu
    simp at hu
    rcases hu with rfl | rfl | rfl <;> rfl
  · unfold maxLen; omega
  · omega
  · simp; omega
  · intro v' w' h1 h2 _
    refine h v' w' ?_ (((Below.refl B W).alloc hB _).grown h2 (by simp; omega) (fun k hk => (World.ownsRow.lt hown k hk).1))
    unfold OwnP
    rw [encP_snoc, List.length_append]
    exact h1

theorem infoP : (Tryz.prog.info? 47).map (fun i => (i.zero, i.size, i.bytes)) = some (some (.agg #[.string ⟨#[]⟩, .string ⟨#[]⟩, .bool false]), 3, 40) := by kernel_rfl

theorem drop_three (l : List UInt8) (e c d : Nat) : l.drop (e + c + 1 + d) = ((l.drop e).drop (c + 1)).drop d := by
  rw [List.drop_drop, List.drop_drop, show e + (c + 1 + d) = e + c + 1 + d by omega]
theorem prm_step {l : List UInt8} {acc : List Prm} {e : Nat} {x : Nat × List Prm} (h : prm l = (prm (l.drop e)).map (fun y => (acc ++ y.1, e + y.2))) (hx : pstep (l.drop e) = some (some x)) :
    prm l = (prm (l.drop (e + x.1))).map (fun y => ((acc ++ x.2) ++ y.1, (e + x.1) + y.2)) := by
  rw [h, prm_on hx, List.drop_drop, Option.map_map]
  congr 1
  funext y
  simp [Nat.add_assoc]

set_option maxRecDepth 100000 in
set_option maxHeartbeats 2000000 in
theorem Params_any (s : ByteArray) (hs : s.size ≤ 134217728) (w : World) (t : Tab w) :
    Calls Tryz.prog 29 #[.string s] w fun e w' => ∃ v, e = .returned (.tuple #[v, .int .i64 (paramsR s.data.toList).2.1, .int .i64 (paramsR s.data.toList).2.2]) ∧ OwnP 47 w.heap.size v (paramsR s.data.toList).1 w' ∧ Below w.heap.size w w' := by
  have HT : Hid (Tab w) := t
  clear t
  go_enter Tryz.func29, Tryz.ntmps29
  go_wp2
  go_loopw [5, 6] (fun lv ev wr => ∃ (e0 : Nat) (acc : List Prm), e0 ≤ s.size ∧ ev = .int .i64 e0 ∧ acc.length ≤ e0 ∧ Hid (prm s.data.toList = (prm (s.data.toList.drop e0)).map (fun y => (acc ++ y.1, e0 + y.2))) ∧ Hid (OwnP 47 w.heap.size lv acc wr) ∧ Hid (Below w.heap.size w wr)) (fun _ ev _ => s.size - (intOf ev).toNat)
  case atStart => exact ⟨0, [], Nat.zero_le _, rfl, Nat.le_refl _, (by simp : prm s.data.toList = (prm (s.data.toList.drop 0)).map (fun y => ([] ++ y.1, 0 + y.2))), ownP_nil _ _ _, Below.refl _ _⟩
  case round =>
    obtain ⟨e0, acc, he0, rfl, hacc, hst, hown, hbl⟩ := hrel
    have hsz := hbl.out.size
    have HE : Hid ((s.extract e0 s.size).data.toList = s.data.toList.drop e0) := Lib.extract_to_end s e0
    have hb1 := bl_le (s.data.toList.drop e0)
    rw [List.length_drop, size_list] at hb1
    have hsemi : semi (s.data.toList.drop e0) (bl (s.data.toList.drop e0)) = decide (e0 + bl (s.data.toList.drop e0) < s.size ∧ byt s (e0 + bl (s.data.toList.drop e0)) = 59) := by
      unfold semi byt
      rw [List.length_drop, size_list, Bool.eq_iff_iff, decide_eq_true_iff, decide_eq_true_iff]
      have eg : (s.data.toList.drop e0).getD (bl (s.data.toList.drop e0)) 0 = s.data.toList.getD (e0 + bl (s.data.toList.drop e0)) 0 := by
        rw [List.getD_eq_getElem?_getD, List.getD_eq_getElem?_getD, List.getElem?_drop]
      rw [eg]
      constructor
      · rintro ⟨h1, h2⟩; exact ⟨by omega, by rw [h2]; rfl⟩
      · rintro ⟨h1, h2⟩; exact ⟨by omega, UInt8.toNat_inj.1 (by show _ = 59; omega)⟩
    have HSemi : Hid (semi (s.data.toList.drop e0) (bl (s.data.toList.drop e0)) = decide (e0 + bl (s.data.toList.drop e0) < s.size ∧ byt s (e0 + bl (s.data.toList.drop e0)) = 59)) := hsemi
    clear hsemi
    have HStop : Hid (semi (s.data.toList.drop e0) (bl (s.data.toList.drop e0)) = false → paramsR s.data.toList = (acc, (e0 : Int), 0)) := fun h => paramsR_some (x := (acc, e0)) (by rw [hst.out, prm_end (pstep_stop h)]; simp)
    by_cases hgo : e0 + bl (s.data.toList.drop e0) < s.size ∧ byt s (e0 + bl (s.data.toList.drop e0)) = 59
    · have HGo : Hid (semi (s.data.toList.drop e0) (bl (s.data.toList.drop e0)) = true) := (by rw [HSemi.out]; exact decide_eq_true hgo : semi _ _ = true)
      obtain ⟨hg1, hg2⟩ := hgo
      have hby : ((s[e0 + bl (s.data.toList.drop e0)].toNat : Nat) : Int) = byt s (e0 + bl (s.data.toList.drop e0)) := byt_at s _ hg1
      have hne : ((e0 : Int) + (bl (s.data.toList.drop e0) : Int) == (s.size : Int)) = false := by simp; omega
      have h59 : (byt s (e0 + bl (s.data.toList.drop e0)) != 59) = false := by simp [hg2]
      have HE1 : Hid ((s.extract (e0 + bl (s.data.toList.drop e0) + 1) s.size).data.toList = (s.data.toList.drop e0).drop (bl (s.data.toList.drop e0) + 1)) := (by rw [Lib.extract_to_end, List.drop_drop, Nat.add_assoc] : (s.extract (e0 + bl (s.data.toList.drop e0) + 1) s.size).data.toList = _)
      have hb2 := bl_le ((s.data.toList.drop e0).drop (bl (s.data.toList.drop e0) + 1))
      rw [List.length_drop, List.length_drop, size_list] at hb2
      have HE2 : Hid ((s.extract (e0 + bl (s.data.toList.drop e0) + 1 + bl ((s.data.toList.drop e0).drop (bl (s.data.toList.drop e0) + 1))) s.size).data.toList = ((s.data.toList.drop e0).drop (bl (s.data.toList.drop e0) + 1)).drop (bl ((s.data.toList.drop e0).drop (bl (s.data.toList.drop e0) + 1)))) := (by rw [Lib.extract_to_end]; exact drop_three _ _ _ _ : (s.extract (e0 + bl (s.data.toList.drop e0) + 1 + bl ((s.data.toList.drop e0).drop (bl (s.data.toList.drop e0) + 1))) s.size).data.toList = _)
      have HBad : Hid (rp (((s.data.toList.drop e0).drop (bl (s.data.toList.drop e0) + 1)).drop (bl ((s.data.toList.drop e0).drop (bl (s.data.toList.drop e0) + 1)))) = none → paramsR s.data.toList = ([], 0, 15)) := fun h => paramsR_none (by rw [hst.out, prm_none (pstep_bad HGo.out h)]; rfl)
      have HEmpty : Hid (∀ x, rp (((s.data.toList.drop e0).drop (bl (s.data.toList.drop e0) + 1)).drop (bl ((s.data.toList.drop e0).drop (bl (s.data.toList.drop e0) + 1)))) = some x → x.2 = 0 → prm s.data.toList = (prm (s.data.toList.drop (e0 + (bl (s.data.toList.drop e0) + 1)))).map (fun y => ((acc ++ []) ++ y.1, (e0 + (bl (s.data.toList.drop e0) + 1)) + y.2))) := fun x h h0 => prm_step hst.out (pstep_empty HGo.out h h0)
      have HOne : Hid (∀ x, rp (((s.data.toList.drop e0).drop (bl (s.data.toList.drop e0) + 1)).drop (bl ((s.data.toList.drop e0).drop (bl (s.data.toList.drop e0) + 1)))) = some x → x.2 ≠ 0 → prm s.data.toList = (prm (s.data.toList.drop (e0 + (bl (s.data.toList.drop e0) + 1 + bl ((s.data.toList.drop e0).drop (bl (s.data.toList.drop e0) + 1)) + x.2)))).map (fun y => ((acc ++ [x.1]) ++ y.1, (e0 + (bl (s.data.toList.drop e0) + 1 + bl ((s.data.toList.drop e0).drop (bl (s.data.toList.drop e0) + 1)) + x.2)) + y.2))) := fun x h h0 => prm_step hst.out (pstep_one HGo.out h h0)
      have HRle : Hid (∀ x, rp (((s.data.toList.drop e0).drop (bl (s.data.toList.drop e0) + 1)).drop (bl ((s.data.toList.drop e0).drop (bl (s.data.toList.drop e0) + 1)))) = some x → x.2 ≤ s.size - (e0 + bl (s.data.toList.drop e0) + 1 + bl ((s.data.toList.drop e0).drop (bl (s.data.toList.drop e0) + 1)))) := fun x h => by
        have := (rp_le _ x h).1
        rw [List.length_drop, List.length_drop, List.length_drop, size_list] at this
        omega
      clear hg2 HSemi HStop
      generalize (((s.data.toList.drop e0).drop (bl (s.data.toList.drop e0) + 1)).drop (bl ((s.data.toList.drop e0).drop (bl (s.data.toList.drop e0) + 1)))) = r3 at *
      go_wp2_with fail
      refine (blankLength_any (s.extract e0 s.size) (by simp; omega) _).mono ?_
      rintro e w2 ⟨rfl, hbb2⟩
      rw [HE.out]
      have HB2 : Hid (Below w.heap.size w w2) := hbl.out.trans (hbb2.mono hsz)
      have HO2 : Hid (OwnP 47 w.heap.size _ acc w2) := hown.out.below hbb2
      have hs2 := hbb2.size
      clear hbb2
      generalize hc2 : bl ((s.data.toList.drop e0).drop (bl (s.data.toList.drop e0) + 1)) = c2 at *
      have HC2 : Hid (bl ((s.data.toList.drop e0).drop (bl (s.data.toList.drop e0) + 1)) = c2) := hc2
      clear hc2
      generalize bl (s.data.toList.drop e0) = c1 at *
      go_wp2_with fail
      refine (blankLength_any (s.extract (e0 + c1 + 1) s.size) (by simp; omega) _).mono ?_
      rintro e w3 ⟨rfl, hbb3⟩
      rw [HE1.out, HC2.out]
      have HB3 : Hid (Below w.heap.size w w3) := HB2.out.trans (hbb3.mono (by omega))
      have HO3 : Hid (OwnP 47 w.heap.size _ acc w3) := HO2.out.below hbb3
      have hs3 := hbb3.size
      clear hbb3
      go_wp2_with fail
      refine (readParam_any (s.extract (e0 + c1 + 1 + c2) s.size) (by simp; omega) _ (HT.out.below HB3.out (Nat.le_refl _))).mono ?_
      rintro e w4 ⟨rfl, hbb4⟩
      rw [HE2.out]
      have HB4 : Hid (Below w.heap.size w w4) := HB3.out.trans (hbb4.mono (by omega))
      have HO4 : Hid (OwnP 47 w.heap.size _ acc w4) := HO3.out.below hbb4
      have hs4 := hbb4.size
      clear hbb4
      cases hrp : rp r3 with
      | none =>
        have HR : Hid (rpR r3 = (([], [], false), 0, 15)) := (by unfold rpR; rw [hrp] : rpR r3 = _)
        have HN : Hid (paramsR s.data.toList = ([], 0, 15)) := HBad.out hrp
        rw [HR.out]
        go_wp2
        go_ret3
        rw [HN.out]
        exact ⟨_, rfl, ownP_nil _ _ _, HB4.out.alloc (by omega) _⟩
      | some x =>
        have HR : Hid (rpR r3 = (x.1, (x.2 : Int), 0)) := (by unfold rpR; rw [hrp] : rpR r3 = _)
        have hxl := HRle.out x hrp
        rw [HR.out]
        by_cases hz : x.2 = 0
        · have HN := HEmpty.out x hrp hz
          rw [List.append_nil, show e0 + (c1 + 1) = e0 + c1 + 1 by omega] at HN
          have HN' : Hid (prm s.data.toList = (prm (s.data.toList.drop (e0 + c1 + 1))).map (fun y => (acc ++ y.1, (e0 + c1 + 1) + y.2))) := HN
          clear HN
          have hz' : ¬ (0 : Int) < (x.2 : Int) := by omega
          go_wp2
          go_roundw
          case rel => exact ⟨e0 + c1 + 1, acc, by omega, by go_num, by omega, HN', (HO4.out.below ((Below.refl _ _).alloc (Nat.le_refl _) _) : OwnP _ _ _ _ _), HB4.out.alloc (by omega) _⟩
          case measure => simp [intOf]; omega
        · have HN := HOne.out x hrp hz
          rw [show e0 + (c1 + 1 + c2 + x.2) = e0 + c1 + 1 + c2 + x.2 by omega] at HN
          have HN' : Hid (prm s.data.toList = (prm (s.data.toList.drop (e0 + c1 + 1 + c2 + x.2))).map (fun y => ((acc ++ [x.1]) ++ y.1, (e0 + c1 + 1 + c2 + x.2) + y.2))) := HN
          clear HN
          have hz' : (0 : Int) < (x.2 : Int) := by omega
          have HO5 : Hid (OwnP 47 w.heap.size _ acc (w4.alloc (.cells #[.string (str x.1.1), .string (str x.1.2.1), .bool x.1.2.2] 47))) := HO4.out.below ((Below.refl _ _).alloc (Nat.le_refl _) _)
          have HB5 : Hid (Below w.heap.size w (w4.alloc (.cells #[.string (str x.1.1), .string (str x.1.2.1), .bool x.1.2.2] 47))) := HB4.out.alloc (by omega) _
          go_wp2_with (at_builtin; go_must (refine wp_appP 47 34 infoP Tryz.underlying34 rfl (.tmp 50) (.tmp 52) rfl w.heap.size _ acc _ x.1 _ _ rfl rfl _ rfl rfl HO5.out _ rfl (by simp) ?h1 ?h2 ?_))
          case h1 => omega
          case h2 => simp; omega
          intro v6 w6 hown6 hb6
          have HO6 : Hid (OwnP 47 w.heap.size v6 (acc ++ [x.1]) w6) := hown6
          have HB6 : Hid (Below w.heap.size w w6) := HB5.out.trans hb6
          clear hown6 hb6
          go_wp2
          go_roundw
          case rel => exact ⟨e0 + c1 + 1 + c2 + x.2, acc ++ [x.1], by omega, by go_num, by simp; omega, HN', HO6, HB6⟩
          case measure => simp [intOf]; omega
    · have HN : Hid (paramsR s.data.toList = (acc, (e0 : Int), 0)) := HStop.out (by rw [HSemi.out]; exact decide_eq_false hgo)
      have hts : ((e0 : Int) + (bl (s.data.toList.drop e0) : Int) == (s.size : Int)) = true ∨ ((e0 : Int) + (bl (s.data.toList.drop e0) : Int) == (s.size : Int)) = false ∧ ∃ h : e0 + bl (s.data.toList.drop e0) < s.size, ((s[e0 + bl (s.data.toList.drop e0)].toNat : Nat) : Int) = byt s (e0 + bl (s.data.toList.drop e0)) ∧ (byt s (e0 + bl (s.data.toList.drop e0)) != 59) = true := by
        by_cases h1 : e0 + bl (s.data.toList.drop e0) = s.size
        · left; simp; omega
        · right
          have h2 : e0 + bl (s.data.toList.drop e0) < s.size := by omega
          exact ⟨by simp; omega, h2, byt_at s _ h2, by simp; exact fun e => hgo ⟨h2, e⟩⟩
      clear hgo HSemi HStop
      rcases hts with t1 | ⟨t1, hlt, t2, t3⟩
      all_goals
        go_wp2_with fail
        refine (blankLength_any (s.extract e0 s.size) (by simp; omega) _).mono ?_
        rintro e w2 ⟨rfl, hbb2⟩
        rw [HE.out]
        generalize bl (s.data.toList.drop e0) = c1 at *
        go_wp2
        go_ret3
        rw [HN.out]
        exact ⟨_, rfl, hown.out.below hbb2, hbl.out.trans (hbb2.mono hsz)⟩

end Oc
end Go.Proofs.YtlnlhhobmgiceaaGreatDoor

/-
  The document's List.
-/
set_option linter.unusedVariables false
set_option linter.unusedSimpArgs false
namespace Go.Proofs.YtlnlhhobmgiceaaGreatDoor
open Go.RowKit Go.Shelf
namespace Oc

theorem unqR_q (l : List UInt8) (h : qlen l = 0) : unqR l = ([], 0, 13) := by unfold unqR; rw [if_pos h]
theorem unqR_p (l : List UInt8) (h : ¬ qlen l = 0) : ∃ x, unqR l = (x, (qlen l : Int), 0) := by unfold unqR; rw [if_neg h]; exact ⟨_, rfl⟩
theorem ownS_emptyB {B : Nat} (w : World) (hB : B ≤ w.heap.size) : OwnS B (.slice (some ⟨w.heap.size, 0, none⟩) 0 0) [] (w.alloc (.cells #[] 9)) := (ownS_empty w).lower hB

end Oc
end Go.Proofs.YtlnlhhobmgiceaaGreatDoor

/-
  Lists of tokens; texts held against texts.
-/
set_option linter.unusedVariables false
set_option linter.unusedSimpArgs false
namespace Go.Proofs.YtlnlhhobmgiceaaGreatDoor
open Go.RowKit Go.Shelf
namespace Oc

def tokensR (l : List UInt8) : List (List UInt8) × Int := if (listR l).2 = 0 then (if (listR l).1.all isTok then ((listR l).1, 0) else ([], 10)) else ([], (listR l).2)
theorem listR_err (l : List UInt8) : (listR l).2 = 0 ∨ (listR l).1 = [] ∧ (listR l).2 = 14 := by
  unfold listR
  split
  · exact .inl rfl
  · exact .inr ⟨rfl, rfl⟩
theorem tokensR_err {l : List UInt8} (h : (listR l).2 = 14) : tokensR l = ([], 14) := by unfold tokensR; rw [if_neg (by omega), h]
theorem tokensR_bad {l : List UInt8} (h : (listR l).2 = 0) (k : Nat) (hk : k < (listR l).1.length) (hb : isTok ((listR l).1.getD k []) = false) : tokensR l = ([], 10) := by
  unfold tokensR
  rw [if_pos h, if_neg]
  rw [all_not isTok [] _ k hk hb]
  simp
theorem tokensR_ok {l : List UInt8} (h : (listR l).2 = 0) (hb : ∀ k, k < (listR l).1.length → isTok ((listR l).1.getD k []) = true) : tokensR l = ((listR l).1, 0) := by
  unfold tokensR
  rw [if_pos h, if_pos (all_of isTok [] _ hb)]

/-- Elements are no longer than the text, and as many. -/
def Short (n : Nat) (t : List (List UInt8)) : Prop := t.length ≤ n ∧ ∀ x ∈ t, x.length ≤ n
theorem short_lst : ∀ (m : Nat) (r cur : List UInt8) (t : List (List UInt8)), r.length ≤ m → lst cur r = some t → t.length ≤ r.length + 1 ∧ ∀ x ∈ t, x.length ≤ cur.length + r.length
  | m, [], cur, t, _, h => by
    rw [lst_nil] at h
    cases h
    have := addEl_len (trim cur)
    refine ⟨by simpa using this, fun x hx => ?_⟩
    unfold addEl at hx
    split at hx
    · simp at hx
    · simp at hx
      subst hx
      have := trim_le cur
      simp
      omega
  | 0, c :: r, cur, t, hm, _ => by simp at hm
  | m + 1, c :: r, cur, t, hm, h => by
    have hl : r.length ≤ m := by simpa using hm
    by_cases h44 : c = 44
    · rw [lst_comma _ _ _ h44] at h
      obtain ⟨u, hu, rfl⟩ := Option.map_eq_some_iff.1 h
      obtain ⟨i1, i2⟩ := short_lst m r [] u hl hu
      constructor
      · unfold addEl
        split <;> simp <;> omega
      · intro x hx
        unfold addEl at hx
        split at hx
        · have := i2 x hx
          simp at this ⊢
          omega
        · rcases List.mem_cons.1 hx with rfl | hx
          · have := trim_le cur
            simp
            omega
          · have := i2 x hx
            simp at this ⊢
            omega
    · by_cases h34 : c = 34
      · by_cases hq : qlen (c :: r) = 0
        · rw [lst_bad _ _ _ h34 hq] at h; cases h
        · rw [lst_quote _ _ _ h34 hq] at h
          have hb := qlen_bd (c :: r)
          obtain ⟨i1, i2⟩ := short_lst m _ _ t (by rw [List.length_drop]; simp; omega) h
          rw [List.length_drop] at i1 i2
          rw [List.length_append, List.length_take] at i2
          refine ⟨by omega, fun x hx => ?_⟩
          have := i2 x hx
          omega
      · rw [lst_on _ _ _ h44 h34] at h
        obtain ⟨i1, i2⟩ := short_lst m r _ t hl h
        rw [List.length_append] at i2
        refine ⟨by simp; omega, fun x hx => ?_⟩
        have := i2 x hx
        simp at this ⊢
        omega
theorem listR_short (l : List UInt8) : (listR l).1.length ≤ l.length + 1 ∧ ∀ x ∈ (listR l).1, x.length ≤ l.length := by
  unfold listR
  split
  · rename_i t h
    obtain ⟨a, b⟩ := short_lst l.length l [] t (Nat.le_refl _) h
    exact ⟨a, fun x hx => by have := b x hx; simpa using this⟩
  · simp
theorem getD_short {n : Nat} {t : List (List UInt8)} (h : ∀ x ∈ t, x.length ≤ n) (k : Nat) (hk : k < t.length) : (t.getD k []).length ≤ n := by
  refine h _ ?_
  rw [List.getD_eq_getElem?_getD, List.getElem?_eq_getElem hk]
  exact List.getElem_mem _

end Oc
end Go.Proofs.YtlnlhhobmgiceaaGreatDoor

/-
  Texts held against texts: the law's own 'same'.
-/
set_option linter.unusedVariables false
set_option linter.unusedSimpArgs false
namespace Go.Proofs.YtlnlhhobmgiceaaGreatDoor
open Go.RowKit Go.Shelf
namespace Oc

/-- A slice that reads as these texts. -/
def RdS (v : Value) (t : List (List UInt8)) (w : World) : Prop :=
  ∃ a c, v = .slice a t.length c ∧ (t = [] ∨ ∃ g o, a = some ⟨g, o, none⟩ ∧ t.length ≤ c ∧ ∀ j, j < t.length → w.cell? ⟨g, o + j, none⟩ = some (.string (str (t.getD j []))))
theorem OwnS.rd {B : Nat} {v : Value} {t : List (List UInt8)} {w : World} (h : OwnS B v t w) : RdS v t w := by
  obtain ⟨a, c, rfl⟩ := h.form
  refine ⟨a, c, rfl, ?_⟩
  cases t with
  | nil => exact .inl rfl
  | cons x t =>
    right
    obtain ⟨g, e, hc, _⟩ := h.cell 0 (by simp)
    refine ⟨g, 0, e, hc, fun j hj => ?_⟩
    obtain ⟨g', e', _, hcell⟩ := h.cell j hj
    rw [e] at e'
    injection e' with e'
    injection e' with e1
    subst e1
    rw [Nat.zero_add]
    exact hcell
theorem RdS.below {v : Value} {t : List (List UInt8)} {w w' : World} (h : RdS v t w) (b : Below w.heap.size w w') : RdS v t w' := by
  obtain ⟨a, c, rfl, h⟩ := h
  refine ⟨a, c, rfl, ?_⟩
  rcases h with h | ⟨g, o, e, hc, hcell⟩
  · exact .inl h
  · refine .inr ⟨g, o, e, hc, fun j hj => ?_⟩
    have h1 := hcell j hj
    rw [b.cell (p := ⟨g, o + j, none⟩) (World.block_lt_of_cell? w _ h1)]
    exact h1

theorem drawn_again (w : World) (n m : Nat) : Hid (∃ k, w.drewN (n + m) = w.drewN k) := ⟨_, rfl⟩
theorem drawn_twice (w : World) (n m : Nat) : ∃ k, (w.drewN n).drewN m = w.drewN k := ⟨n + m, World.drewN_drewN ..⟩

end Oc
end Go.Proofs.YtlnlhhobmgiceaaGreatDoor
