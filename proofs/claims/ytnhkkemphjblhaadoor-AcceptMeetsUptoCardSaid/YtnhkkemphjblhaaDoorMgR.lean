/- Several texts as one. -/
import Derived.Test.YtnhkkemphjblhaaDoorMgP
import Derived.Test.YtnhkkemphjblhaaDoorMgQ
import Derived.Maps.AppendAt
import Derived.Test.YtnhkkemphjblhaaDoorMgM
import Derived.Test.YtnhkkemphjblhaaDoorMgN
import Derived.Test.YtnhkkemphjblhaaDoorMgJ
/-
  The law's media: a media type as the document has it.
-/
set_option linter.unusedVariables false
set_option linter.unusedSimpArgs false
namespace Go.Proofs.YtnhkkemphjblhaaDoor
open Go.RowKit Go.Shelf
namespace Ac
open Oc Tg

theorem heap_keep {W : World} {b : Nat} {o o' : Obj} (h : W.heap[b]? = some o) : (W.alloc o').heap[b]? = some o := by
  have hlt : b < W.heap.size := (Array.getElem?_eq_some_iff.1 h).1
  show (W.heap.push o')[b]? = _
  rw [Array.getElem?_push_lt hlt]
  rw [Array.getElem?_eq_getElem hlt] at h
  exact h
theorem heap_newAt (W : World) (o : Obj) (n : Nat) (h : W.heap.size = n) : (W.alloc o).heap[n]? = some o := by
  subst h
  exact heap_alloc_new W o
theorem take_nthM (t : List Prm) (k : Nat) (h : k < t.length) : t.take (k + 1) = t.take k ++ [nth t k] := by
  unfold nth
  rw [List.take_add_one, List.getElem?_eq_getElem h, List.getD_eq_getElem?_getD, List.getElem?_eq_getElem h]; rfl
/-- A parameter appended to a slice of the call's own; every block but the slice's own stays. -/
theorem wp_appP2 {ops : Array Oper} {rest : List Oper} {o : Oper} {a : Act} {Q : Exit → Act → World → Prop} (T S : Nat) (hinfo : (Tryd.prog.info? T).map (fun i => (i.zero, i.size, i.bytes)) = some (some (.agg #[.string ⟨#[]⟩, .string ⟨#[]⟩, .bool false]), 3, 40))
    (hund : Tryd.prog.underlying S = some (.slice T)) (hgd : o.guard = none) (s x : Operand)
    (ho : o.op = .call { callee := .builtin .append, args := #[s, x], argTypes := #[S, S] }) (B : Nat) (v : Value) (t : List Prm) (W : World) (p : Prm) (n1 n2 : ByteArray) (h1 : n1 = str p.1) (h2 : n2 = str p.2.1) (b : Bool) (h3 : b = p.2.2)
    (hs : a.eval s = v) (hown : OwnP T B v t W) (g : Nat) (hx : a.eval x = .slice (some ⟨g, 0, none⟩) 1 1) (hg : g = W.heap.size) (hlen : t.length + 1 ≤ 2147483648) (hB : B ≤ W.heap.size)
    (h : ∀ v' w', OwnP T B v' (t ++ [p]) w' → Below B W w' → (∀ k, k < W.heap.size → v.ownBlock ≠ some k → w'.heap[k]? = W.heap[k]?) → wpList Tryd.prog ops Q rest (a.put o.dst v') w') : wpList Tryd.prog ops Q (o :: rest) a (W.alloc (.cells #[.string n1, .string n2, .bool b] T)) := by
  subst h1 h2 h3 hg
  obtain ⟨i0, hi, hz0, hz1, hz2⟩ := info_parts hinfo
  refine wpList_append_own_at _ hgd s x S ho B T i0 (.agg #[.string ⟨#[]⟩, .string ⟨#[]⟩, .bool false]) 3 40 hund hi hz0 hz1 hz2 rfl (by decide) v t.length _ hs (World.ownsRow.alloc hown _) ⟨W.heap.size, 0, none⟩ 1 1 (enc1 p) hx rfl ?_ ?_ ?_ ?_ ?_ ?_
  · intro j u hj
    unfold enc1 at hj
    match j, hj with
    | 0, hj => simp at hj; subst hj; simp [Addr.add]
    | 1, hj => simp at hj; subst hj; simp [Addr.add]
    | 2, hj => simp at hj; subst hj; simp [Addr.add]
  · intro u hu
    unfold enc1 at hu
    simp at hu
    rcases hu with rfl | rfl | rfl <;> rfl
  · unfold maxLen; omega
  · omega
  · simp; omega
  · intro v' w' h1 h2 _ h4
    refine h v' w' ?_ (((Below.refl B W).alloc hB _).grown h2 (by simp; omega) (fun k hk => (World.ownsRow.lt hown k hk).1)) (fun k hk hne => (h2.block k (by simp; omega) (fun e => hne e.symm)).trans (Lib.alloc_old W _ k hk))
    unfold OwnP
    rw [encP_snoc, List.length_append]
    exact h1
/-- The row's block is none that holds cells of another type. -/
theorem OwnP.notBlk {T B : Nat} {v : Value} {t : List Prm} {w : World} (h : OwnP T B v t w) {k : Nat} {cs : Array Value} {T' : TypeId} {fz : Nat × Nat} (hk : w.heap[k]? = some (.cells cs T' fz)) (hT : T' ≠ T) : v.ownBlock ≠ some k := by
  intro e
  rcases h.2 with ⟨rfl, _⟩ | ⟨g, cap, cur, rfl, _, hg, _⟩
  · cases e
  · have : g = k := by simpa [Value.ownBlock] using e
    subst this
    rw [hk] at hg
    injection hg with hg
    injection hg with _ h2 _
    exact hT h2

theorem OwnP.setOther {T B p j : Nat} {v : Value} {t : List Prm} {w : World} (h : OwnP T B v t w) (hne : v.ownBlock ≠ some p) (u : Value) : OwnP T B v t (w.setCell ⟨p, j, none⟩ u) := by
  refine ⟨h.1, ?_⟩
  rcases h.2 with hn | ⟨g, cap, cur, rfl, hb, hg, rest⟩
  · exact .inl hn
  · refine .inr ⟨g, cap, cur, rfl, hb, ?_, rest⟩
    rw [heap_setCell_other w ⟨p, j, none⟩ g u (fun e => hne (by simpa [Value.ownBlock] using e))]
    exact hg

set_option maxRecDepth 100000 in
set_option maxHeartbeats 4000000 in
theorem media_any (A B : ByteArray) (v : Value) (ps : List Prm) (hl : ps.length ≤ 16777216) (w : World) (hrd : RdP v ps w) :
    Calls Tryd.prog 13 #[.agg #[.string A, .string B, v]] w fun e w' => ∃ u, e = .returned (.agg #[.string A, .string B, u]) ∧ OwnP 63 w.heap.size u ps w' ∧ Below w.heap.size w w' := by
  have HR : Hid (RdP v ps w) := hrd
  obtain ⟨va, vc, rfl, _⟩ := hrd
  obtain ⟨w1, hw1⟩ : ∃ w1, w1 = (((w.alloc (.cells #[.string A, .string B, .slice va ps.length vc] 24)).alloc (.cells #[.string ⟨#[]⟩, .string ⟨#[]⟩, .slice none 0 0] 30)).alloc (.cells #[] 63)).alloc (.cells #[.string A, .string B, .slice (some ⟨w.heap.size + 1 + 1, 0, none⟩) 0 0] 30) := ⟨_, rfl⟩
  have hb1 : Below w.heap.size w w1 := by rw [hw1]; exact ((((Below.refl _ w).alloc (Nat.le_refl _) _).alloc (by simp) _).alloc (by simp; omega) _).alloc (by simp; omega) _
  have hz1 : w1.heap.size = w.heap.size + 4 := by rw [hw1]; simp
  have B0 : Hid (w1.heap[w.heap.size]? = some (.cells #[.string A, .string B, .slice va ps.length vc] 24 (0, 0))) := by
    show _ = _; rw [hw1]; exact heap_keep (heap_keep (heap_keep (heap_alloc_new w _)))
  have B1 : Hid (w1.heap[w.heap.size + 1]? = some (.cells #[.string ⟨#[]⟩, .string ⟨#[]⟩, .slice none 0 0] 30 (0, 0))) := by
    show _ = _; rw [hw1]; exact heap_keep (heap_keep (heap_newAt _ _ _ (by simp)))
  have B2 : Hid (w1.heap[w.heap.size + 1 + 1]? = some (.cells #[] 63 (0, 0))) := by
    show _ = _; rw [hw1]; exact heap_keep (heap_newAt _ _ _ (by simp))
  have B3 : Hid (w1.heap[w.heap.size + 1 + 1 + 1]? = some (.cells #[.string A, .string B, .slice (some ⟨w.heap.size + 1 + 1, 0, none⟩) 0 0] 30 (0, 0))) := by
    show _ = _; rw [hw1]; exact heap_newAt _ _ _ (by simp)
  have O0 : Hid (OwnP 63 (w.heap.size + 1 + 1) (.slice (some ⟨w.heap.size + 1 + 1, 0, none⟩) 0 0) [] w1) := (⟨by simp [encP], .inr ⟨w.heap.size + 1 + 1, 0, #[], rfl, Nat.le_refl _, B2.out, by simp, by decide, by simp, by simp [encP]⟩⟩ : OwnP _ _ _ _ _)
  have HB1 : Hid (Below w.heap.size w w1) := hb1
  clear hb1
  go_enter Tryd.func13, Tryd.ntmps13
  go_wp2
  rw [← hw1]
  clear hw1
  go_loopw [4] (fun iv wr => ∃ (k : Nat) (uv : Value), k ≤ ps.length ∧ iv = .int .i64 k ∧ Hid (wr.heap[w.heap.size]? = some (.cells #[.string A, .string B, .slice va ps.length vc] 24 (0, 0))) ∧ Hid (wr.heap[w.heap.size + 1]? = some (.cells #[.string ⟨#[]⟩, .string ⟨#[]⟩, .slice none 0 0] 30 (0, 0))) ∧ Hid (wr.heap[w.heap.size + 1 + 1 + 1]? = some (.cells #[.string A, .string B, uv] 30 (0, 0))) ∧ Hid (OwnP 63 (w.heap.size + 1 + 1) uv (ps.take k) wr) ∧ Hid (Below w.heap.size w wr) ∧ Hid (w.heap.size + 4 ≤ wr.heap.size)) (fun iv _ => ps.length - (intOf iv).toNat)
  case atStart => exact ⟨0, _, Nat.zero_le _, rfl, B0, B1, B3, O0, HB1, (by omega : w.heap.size + 4 ≤ w1.heap.size)⟩
  case round =>
    obtain ⟨k, uv, hk, rfl, hB0, hB1, hB3, hown, hbl, hsz⟩ := hrel
    obtain ⟨ua, uc, rfl, _⟩ := OwnP.rd hown.out
    have hlkk : (ps.take k).length = k := by rw [List.length_take]; omega
    rw [hlkk] at hB3 hown
    have c2 := Lib.cell_of_heap hB0.out 2
    have d0 := Lib.cell_of_heap hB3.out 0
    have d1 := Lib.cell_of_heap hB3.out 1
    have d2 := Lib.cell_of_heap hB3.out 2
    have fd2 := Lib.frozen_of_heap hB3.out 2
    simp at c2 d0 d1 d2
    by_cases hlt : k < ps.length
    · obtain ⟨a', c', e', hcs⟩ := HR.out.below hbl.out
      injection e' with e1 _ e2
      subst e1 e2
      rcases hcs with h | ⟨g, o, rfl, hlc, hcell⟩
      · rw [h] at hlt; simp at hlt
      obtain ⟨p0, p1, p2⟩ := hcell k hlt
      clear hcell
      have HTk : Hid (ps.take (k + 1) = ps.take k ++ [nth ps k]) := take_nthM ps k hlt
      have hlk : (ps.take k).length + 1 ≤ 2147483648 := by rw [List.length_take]; omega
      generalize nth ps k = p at *
      obtain ⟨pn, pv, pb⟩ := p
      dsimp only at p0 p1 p2
      generalize hn : str pn = n at p0
      generalize hv : str pv = vv at p1
      have HNe : Hid (n = str pn) := hn.symm
      have HVe : Hid (vv = str pv) := hv.symm
      clear hn hv
      obtain ⟨w5, hw5⟩ : ∃ w5, w5 = wr.alloc (.cells #[.string n, .string vv, .bool pb] 64) := ⟨_, rfl⟩
      have E0 : Hid (w5.heap[w.heap.size]? = some (.cells #[.string A, .string B, .slice (some ⟨g, o, none⟩) ps.length vc] 24 (0, 0))) := by show _ = _; rw [hw5]; exact heap_keep hB0.out
      have E1 : Hid (w5.heap[w.heap.size + 1]? = some (.cells #[.string ⟨#[]⟩, .string ⟨#[]⟩, .slice none 0 0] 30 (0, 0))) := by show _ = _; rw [hw5]; exact heap_keep hB1.out
      have E3 : Hid (w5.heap[w.heap.size + 1 + 1 + 1]? = some (.cells #[.string A, .string B, .slice ua k uc] 30 (0, 0))) := by show _ = _; rw [hw5]; exact heap_keep hB3.out
      have O5 : Hid (OwnP 63 (w.heap.size + 1 + 1) (.slice ua k uc) (ps.take k) w5) := by show OwnP _ _ _ _ _; rw [hw5]; exact World.ownsRow.alloc hown.out _
      have HB5 : Hid (Below w.heap.size w w5) := by show Below _ _ _; rw [hw5]; exact hbl.out.alloc hbl.out.size _
      have hz5 : Hid (w.heap.size + 5 ≤ w5.heap.size) := by show _ ≤ _; rw [hw5]; have := hsz.out; simp; omega
      have hB5 : w.heap.size + 1 + 1 ≤ w5.heap.size := by have := hz5.out; omega
      have x0 := Lib.cell_of_heap E3.out 0
      have x1 := Lib.cell_of_heap E3.out 1
      have x2 := Lib.cell_of_heap E3.out 2
      simp only [List.getElem?_toArray, List.getElem?_cons_succ, List.getElem?_cons_zero] at x0 x1 x2
      clear c2 d0 d1 d2 fd2
      have c2 := Lib.cell_of_heap hB0.out 2
      simp at c2
      subst hw5
      go_wp2_with (at_builtin; go_must (refine wp_appP2 63 28 infoP2 Tryd.underlying28 rfl (.tmp 25) (.tmp 33) rfl (w.heap.size + 1 + 1) (.slice ua k uc) (ps.take k) _ (pn, pv, pb) _ _ HNe.out HVe.out _ rfl rfl O5.out _ (by simp [Act.eval, Act.put]) rfl hlk hB5 ?_; intro v7 w7 hown7 hb7 hkeep; have K0 : Hid (w7.heap[w.heap.size]? = some (.cells #[.string A, .string B, .slice (some ⟨g, o, none⟩) ps.length vc] 24 (0, 0))) := (hkeep _ (by have := hz5.out; omega) (OwnP.notBlk O5.out E0.out (by decide))).trans E0.out; have K1 : Hid (w7.heap[w.heap.size + 1]? = some (.cells #[.string ⟨#[]⟩, .string ⟨#[]⟩, .slice none 0 0] 30 (0, 0))) := (hkeep _ (by have := hz5.out; omega) (OwnP.notBlk O5.out E1.out (by decide))).trans E1.out; have K3 : Hid (w7.heap[w.heap.size + 1 + 1 + 1]? = some (.cells #[.string A, .string B, .slice ua k uc] 30 (0, 0))) := (hkeep _ (by have := hz5.out; omega) (OwnP.notBlk O5.out E3.out (by decide))).trans E3.out; have HO7 : Hid (OwnP 63 (w.heap.size + 1 + 1) v7 (ps.take (k + 1)) w7) := (by rw [HTk.out]; exact hown7 : OwnP _ _ _ _ _); have HB7 : Hid (Below w.heap.size w w7) := HB5.out.trans (hb7.mono (by omega)); have hz7 : Hid (w.heap.size + 1 + 1 + 1 < w7.heap.size) := (by have := hz5.out; have := hb7.size; omega : w.heap.size + 1 + 1 + 1 < w7.heap.size); obtain ⟨u7, c7, rfl, _⟩ := OwnP.rd HO7.out; have y2 := Lib.cell_of_heap K3.out 2; have fy2 := Lib.frozen_of_heap K3.out 2; simp only [List.getElem?_toArray, List.getElem?_cons_succ, List.getElem?_cons_zero] at y2; clear hown7 hb7 hkeep))
      go_roundw
      case rel =>
        have HO8 := HO7.out
        rw [List.length_take] at HO8
        refine ⟨k + 1, .slice u7 (min (k + 1) ps.length) c7, by omega, by go_num, ?_, ?_, ?_, ?_, ?_, ?_⟩
        · exact (heap_setCell_other w7 ⟨w.heap.size + 1 + 1 + 1, 2, none⟩ _ _ (by simp; omega)).trans K0.out
        · exact (heap_setCell_other w7 ⟨w.heap.size + 1 + 1 + 1, 2, none⟩ _ _ (by simp)).trans K1.out
        · exact heap_setCell_same w7 _ 2 _ _ _ K3.out
        · exact OwnP.setOther HO8 (OwnP.notBlk HO8 K3.out (by decide)) _
        · exact HB7.out.setCell (by simp; omega) _
        · exact Nat.le_trans (Nat.succ_le_of_lt hz7.out) (by simp)
      case measure => simp [intOf]; omega
    · obtain rfl : k = ps.length := by omega
      rw [List.take_length] at hown
      have e1a := Lib.cell_of_heap hB1.out 0
      have e1b := Lib.cell_of_heap hB1.out 1
      have e1c := Lib.cell_of_heap hB1.out 2
      have f1a := Lib.frozen_of_heap hB1.out 0
      have f1b := Lib.frozen_of_heap hB1.out 1
      have f1c := Lib.frozen_of_heap hB1.out 2
      simp at e1a e1b e1c
      go_wp2
      refine bodyPost_ret (v := .agg #[.string A, .string B, .slice ua ps.length uc]) (by simp [results, Tryd.results13, go_sem, e1a, e1b, e1c]) rfl ?_
      refine ⟨_, rfl, ?_, (Below.setCell (p := ⟨w.heap.size + 1, 2, none⟩) (Below.setCell (p := ⟨w.heap.size + 1, 1, none⟩) (Below.setCell (p := ⟨w.heap.size + 1, 0, none⟩) hbl.out (by simp) _) (by simp) _) (by simp) _)⟩
      exact OwnP.mono (OwnP.setBelow (a := ⟨w.heap.size + 1, 2, none⟩) (OwnP.setBelow (a := ⟨w.heap.size + 1, 1, none⟩) (OwnP.setBelow (a := ⟨w.heap.size + 1, 0, none⟩) hown.out (by simp) _) (by simp) _) (by simp) _) (by omega)

end Ac
end Go.Proofs.YtnhkkemphjblhaaDoor

/-
  The law's awake.
-/
set_option linter.unusedVariables false
set_option linter.unusedSimpArgs false
namespace Go.Proofs.YtnhkkemphjblhaaDoor
open Go.RowKit Go.Shelf
namespace Ac
open Oc Tg

theorem qual_half : qual [48, 46, 53] = (500, 0) := by decide
theorem parM_html : parM [84, 101, 120, 116, 47, 72, 116, 109, 108] = some ([116, 101, 120, 116], [104, 116, 109, 108], []) := by rfl

set_option maxRecDepth 100000 in
set_option maxHeartbeats 1000000 in
theorem awake_any (w : World) (hw : Env w) :
    Calls Tryd.prog 9 #[] w fun e w' => e = .returned (.bool true) ∧ Below w.heap.size w w' := by
  have HQ : Hid (∀ w, ML w → Calls Tryd.prog 26 #[.string ⟨#[48, 46, 53]⟩] w fun e w' => e = .returned (.tuple #[.int .i64 500, .int .i64 0]) ∧ Below w.heap.size w w') := fun w h => by
    have := Quality_any ⟨#[48, 46, 53]⟩ (by show 3 ≤ 4000000000; omega) w h
    rw [show (⟨#[48, 46, 53]⟩ : ByteArray).data.toList = [48, 46, 53] from rfl, qual_half] at this
    exact this
  have HP : Hid (∀ w, Env w → Calls Tryd.prog 7 #[.string ⟨#[84, 101, 120, 116, 47, 72, 116, 109, 108]⟩] w fun e w' => ∃ v, e = .returned (.tuple #[.agg #[.string ⟨#[116, 101, 120, 116]⟩, .string ⟨#[104, 116, 109, 108]⟩, v], .int .i64 0]) ∧ OwnP 64 w.heap.size v [] w' ∧ Below w.heap.size w w') := fun w h => by
    have := Parse_any ⟨#[84, 101, 120, 116, 47, 72, 116, 109, 108]⟩ (by show 9 ≤ 134217728; omega) w h
    rw [show (⟨#[84, 101, 120, 116, 47, 72, 116, 109, 108]⟩ : ByteArray).data.toList = [84, 101, 120, 116, 47, 72, 116, 109, 108] from rfl, parM_html] at this
    exact this
  have HE : Hid (Env w) := hw
  clear hw
  go_enter Tryd.func9, Tryd.ntmps9
  go_wp2_with fail
  refine (HQ.out _ HE.out.2).mono ?_
  rintro e w2 ⟨rfl, hb2⟩
  have HB2 : Hid (Below w.heap.size w w2) := hb2
  clear hb2
  go_wp2_with fail
  refine (HP.out _ (HE.out.below HB2.out)).mono ?_
  rintro e w3 ⟨v, rfl, ho, hb3⟩
  have HB3 : Hid (Below w.heap.size w w3) := bel_trans HB2.out hb3
  have HB4 : Hid (Below w.heap.size w (w3.alloc (.cells #[.string ⟨#[116, 101, 120, 116]⟩, .string ⟨#[104, 116, 109, 108]⟩, v] 24))) := HB3.out.alloc HB3.out.size _
  obtain ⟨va, vc, rfl, _⟩ := OwnP.rd ho
  clear hb3 ho HP HQ
  go_wp2
  go_ret
  exact ⟨rfl, HB4.out⟩

end Ac
end Go.Proofs.YtnhkkemphjblhaaDoor

/-
  Parameters as text, and back.
-/
set_option linter.unusedVariables false
set_option linter.unusedSimpArgs false
namespace Go.Proofs.YtnhkkemphjblhaaDoor
namespace Oc

/-- A parameter as text, where it can be told. -/
def prt1 (p : Prm) : Option (List UInt8) :=
  if isTok p.1 = false then none
  else if p.2.2 = false then (if p.2.1 = [] then some (59 :: 32 :: p.1) else none)
  else if isTok p.2.1 = true then some (59 :: 32 :: (p.1 ++ 61 :: p.2.1))
  else if isFld p.2.1 = true then some (59 :: 32 :: (p.1 ++ 61 :: qText p.2.1)) else none
def prts : List Prm → Option (List UInt8)
  | [] => some []
  | p :: r => match prt1 p with | none => none | some a => (prts r).map (a ++ ·)
def printR (t : List Prm) : List UInt8 × Int := match prts t with | some x => (x, 0) | none => ([], 15)
def szP (p : Prm) : Nat := p.1.length + p.2.1.length + 4
def sumP (t : List Prm) : Nat := (t.map szP).sum

theorem tokI_kind : ∀ c : Nat, c < 256 → tokI (c : Int) = true → blankI (c : Int) = false ∧ fieldI (c : Int) = true := by decide +kernel
theorem tokB_kind (c : UInt8) (h : tokB c = true) : blankB c = false ∧ fieldB c = true := tokI_kind c.toNat c.toNat_lt h
theorem tok59 : tokB 59 = false := by decide
theorem tok61 : tokB 61 = false := by decide
theorem tok34 : tokB 34 = false := by decide
theorem blank59 : blankB 59 = false := by decide
theorem blank32 : blankB 32 = true := by decide
theorem isTok_all {l : List UInt8} (h : isTok l = true) : l ≠ [] ∧ l.all tokB = true := by
  unfold isTok at h
  rw [Bool.and_eq_true] at h
  exact ⟨fun e => by rw [e] at h; simp at h, h.2⟩
theorem isTok_fld {l : List UInt8} (h : isTok l = true) : isFld l = true := by
  unfold isFld
  rw [List.all_eq_true]
  intro c hc
  exact (tokB_kind c (List.all_eq_true.1 (isTok_all h).2 c hc)).2
theorem tokLen_app (a z : List UInt8) (h : a.all tokB = true) (hz : ∀ c y, z = c :: y → tokB c = false) : tokLen (a ++ z) = a.length := by
  unfold tokLen
  rw [List.takeWhile_append_of_pos (List.all_eq_true.1 h)]
  cases z with
  | nil => simp
  | cons c y => simp [hz c y rfl]
theorem bl_zero (c : UInt8) (l : List UInt8) (h : blankB c = false) : bl (c :: l) = 0 := by unfold bl; simp [h]
theorem bl_one (l : List UInt8) (h : bl l = 0) : bl (32 :: l) = 1 := by
  unfold bl at *
  rw [List.takeWhile_cons, if_pos blank32, List.length_cons, h]
theorem bl_tok {n : List UInt8} (h : isTok n = true) (tail : List UInt8) : bl (n ++ tail) = 0 := by
  obtain ⟨h0, h1⟩ := isTok_all h
  cases n with
  | nil => exact absurd rfl h0
  | cons c n =>
    rw [List.all_cons, Bool.and_eq_true] at h1
    exact bl_zero _ _ (tokB_kind c h1.1).1
theorem pstep_at {n tail : List UInt8} (h : isTok n = true) {y : Prm × Nat} (hr : rp (n ++ tail) = some y) (hy : y.2 ≠ 0) : pstep (59 :: 32 :: (n ++ tail)) = some (some (2 + y.2, [y.1])) := by
  have b0 : bl (59 :: 32 :: (n ++ tail)) = 0 := bl_zero _ _ blank59
  have d1 : (59 :: 32 :: (n ++ tail)).drop 1 = 32 :: (n ++ tail) := rfl
  have b1 : bl (32 :: (n ++ tail)) = 1 := bl_one _ (bl_tok h tail)
  have s0 : semi (59 :: 32 :: (n ++ tail)) 0 = true := decide_eq_true ⟨by simp, rfl⟩
  have := pstep_one (r := 59 :: 32 :: (n ++ tail)) (x := y) (by rw [b0]; exact s0) (by rw [b0, Nat.zero_add, d1, b1]; exact hr) hy
  rw [b0, Nat.zero_add, d1, b1] at this
  rw [this, show 1 + 1 + y.2 = 2 + y.2 by omega]
/-- What may stand behind. -/
def Stops (z : List UInt8) : Prop := z = [] ∨ ∃ y, z = 59 :: y
theorem stops_tok {z : List UInt8} (h : Stops z) : ∀ c y, z = c :: y → tokB c = false := by
  intro c y e
  rcases h with h | ⟨y', h⟩
  · rw [h] at e; cases e
  · rw [h] at e; cases e; exact tok59
theorem getD_app (a z : List UInt8) (c : UInt8) : (a ++ c :: z).getD a.length 0 = c := by
  rw [List.getD_eq_getElem?_getD, List.getElem?_append_right (Nat.le_refl _), Nat.sub_self]; rfl
theorem drop_app1 (a z : List UInt8) (c : UInt8) : (a ++ c :: z).drop (a.length + 1) = z := by
  rw [List.drop_append, List.drop_of_length_le (by omega), show a.length + 1 - a.length = 1 by omega]; rfl
theorem pstep_prt {p : Prm} {x z : List UInt8} (h : prt1 p = some x) (hz : Stops z) : pstep (x ++ z) = some (some (x.length, [p])) := by
  obtain ⟨n, v, b⟩ := p
  unfold prt1 at h
  simp only at h
  split at h
  · cases h
  rename_i hn
  have hn : isTok n = true := by simpa using hn
  obtain ⟨n0, nall⟩ := isTok_all hn
  have nlen : 0 < n.length := List.length_pos_iff.2 n0
  split at h
  · rename_i hb
    subst hb
    split at h
    · rename_i hv
      subst hv
      cases h
      have tl := tokLen_app n z nall (stops_tok hz)
      have told0 : told (n ++ z) n.length = false := by
        unfold told
        refine decide_eq_false ?_
        rintro ⟨_, h1, h2⟩
        rcases hz with rfl | ⟨y, rfl⟩
        · simp at h1
        · rw [getD_app] at h2; cases h2
      have hr := rp_bare tl told0
      rw [List.take_left] at hr
      show pstep (59 :: 32 :: (n ++ z)) = _
      rw [pstep_at hn hr (by show n.length ≠ 0; omega)]
      simp
      omega
    · cases h
  · rename_i hb
    have hb : b = true := by simpa using hb
    subst hb
    split at h
    · rename_i hv
      obtain ⟨v0, vall⟩ := isTok_all hv
      cases h
      have e : n ++ 61 :: v ++ z = n ++ 61 :: (v ++ z) := by simp
      have tl := tokLen_app n (61 :: (v ++ z)) nall (fun c y e => by cases e; exact tok61)
      have told1 : told (n ++ 61 :: (v ++ z)) n.length = true := decide_eq_true ⟨nlen, by simp, getD_app _ _ _⟩
      have tv : tokLen ((n ++ 61 :: (v ++ z)).drop (n.length + 1)) = v.length := by rw [drop_app1]; exact tokLen_app v z vall (stops_tok hz)
      have hr := rp_tok tl told1 tv (List.length_pos_iff.2 v0)
      rw [drop_app1, List.take_left, List.take_left] at hr
      show pstep (59 :: 32 :: (n ++ 61 :: v ++ z)) = _
      rw [e, pstep_at hn hr (by show n.length + 1 + v.length ≠ 0; omega)]
      simp
      omega
    · split at h
      · rename_i hv hf
        cases h
        have e : n ++ 61 :: qText v ++ z = n ++ 61 :: (qText v ++ z) := by simp
        have tl := tokLen_app n (61 :: (qText v ++ z)) nall (fun c y e => by cases e; exact tok61)
        have told1 : told (n ++ 61 :: (qText v ++ z)) n.length = true := decide_eq_true ⟨nlen, by simp, getD_app _ _ _⟩
        have tv : tokLen ((n ++ 61 :: (qText v ++ z)).drop (n.length + 1)) = 0 := by
          rw [drop_app1]
          exact tokLen_app [] (qText v ++ z) rfl (fun c y e => by unfold qText at e; cases e; exact tok34)
        have ub := unqR_back v z hf
        have q0 : qlen ((n ++ 61 :: (qText v ++ z)).drop (n.length + 1)) ≠ 0 := by
          rw [drop_app1]
          intro h0
          rw [unqR_q _ h0] at ub
          cases ub
        obtain ⟨y, hy1, hy2⟩ := rp_quo tl told1 tv rfl q0
        rw [drop_app1, ub] at hy1
        rw [drop_app1, List.take_left] at hy2
        have e1 : v = y := congrArg (fun a => a.1) hy1
        have e2 : ((qText v).length : Int) = (qlen (qText v ++ z) : Int) := congrArg (fun a => a.2.1) hy1
        subst e1
        show pstep (59 :: 32 :: (n ++ 61 :: qText v ++ z)) = _
        rw [e, pstep_at hn hy2 (by show n.length + 1 + _ ≠ 0; omega)]
        simp
        omega
      · cases h
theorem prt1_head {p : Prm} {x : List UInt8} (h : prt1 p = some x) : ∃ y, x = 59 :: y := by
  unfold prt1 at h
  (repeat' split at h) <;> first | (cases h; exact ⟨_, rfl⟩) | cases h
theorem prts_stops : ∀ {t : List Prm} {x : List UInt8}, prts t = some x → Stops x
  | [], x, h => by cases h; exact .inl rfl
  | p :: r, x, h => by
    unfold prts at h
    cases hp : prt1 p with
    | none => rw [hp] at h; cases h
    | some a =>
      rw [hp] at h
      obtain ⟨b, hb, rfl⟩ := Option.map_eq_some_iff.1 h
      obtain ⟨y, rfl⟩ := prt1_head hp
      exact .inr ⟨_, rfl⟩
theorem prm_prts : ∀ (t : List Prm) (x : List UInt8), prts t = some x → prm x = some (t, x.length)
  | [], x, h => by cases h; exact prm_end (pstep_stop rfl)
  | p :: r, x, h => by
    unfold prts at h
    cases hp : prt1 p with
    | none => rw [hp] at h; cases h
    | some a =>
      rw [hp] at h
      obtain ⟨b, hb, rfl⟩ := Option.map_eq_some_iff.1 h
      have ih := prm_prts r b hb
      show prm (a ++ b) = _
      rw [prm_on (pstep_prt hp (prts_stops hb)), List.drop_left, ih, List.length_append]
      rfl
theorem qText_len (v : List UInt8) : (qText v).length ≤ 2 * v.length + 2 := by
  have := qBody_le v
  unfold qText
  simp
  omega
theorem prt1_len {p : Prm} {x : List UInt8} (h : prt1 p = some x) : x.length ≤ 2 * szP p := by
  have := qText_len p.2.1
  unfold prt1 at h
  unfold szP
  (repeat' split at h) <;> first | (cases h; simp; omega) | cases h
theorem drop_nth (t : List Prm) (k : Nat) (h : k < t.length) : t.drop k = nth t k :: t.drop (k + 1) := by
  rw [List.drop_eq_getElem_cons h]
  unfold nth
  rw [List.getD_eq_getElem?_getD, List.getElem?_eq_getElem h]
  rfl
theorem sumP_drop (t : List Prm) (k : Nat) (h : k < t.length) : sumP (t.drop k) = szP (nth t k) + sumP (t.drop (k + 1)) := by
  rw [drop_nth t k h]; rfl
theorem prts_step {t : List Prm} {k : Nat} {acc a : List UInt8} (h : k < t.length) (hst : prts t = (prts (t.drop k)).map (acc ++ ·)) (ha : prt1 (nth t k) = some a) :
    prts t = (prts (t.drop (k + 1))).map ((acc ++ a) ++ ·) := by
  rw [hst, drop_nth t k h, prts, ha]
  simp only [Option.map_map]
  congr 1
  funext y
  simp
theorem prts_bad {t : List Prm} {k : Nat} {acc : List UInt8} (h : k < t.length) (hst : prts t = (prts (t.drop k)).map (acc ++ ·)) (ha : prt1 (nth t k) = none) : printR t = ([], 15) := by
  unfold printR
  rw [hst, drop_nth t k h, prts, ha]
  rfl
theorem prts_end {t : List Prm} {acc : List UInt8} (hst : prts t = (prts (t.drop t.length)).map (acc ++ ·)) : prts t = some acc := by
  rw [hst, List.drop_length, prts]
  simp
theorem sumP_append (a b : List Prm) : sumP (a ++ b) = sumP a + sumP b := by simp [sumP]
theorem nth_sz (t : List Prm) (k : Nat) (h : k < t.length) : szP (nth t k) ≤ sumP t := by
  have h1 := sumP_append (t.take k) (t.drop k)
  rw [List.take_append_drop, sumP_drop t k h] at h1
  omega

end Oc
end Go.Proofs.YtnhkkemphjblhaaDoor
