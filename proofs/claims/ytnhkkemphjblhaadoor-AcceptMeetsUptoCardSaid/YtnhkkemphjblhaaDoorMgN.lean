/- Several texts as one. -/
import Derived.Test.YtnhkkemphjblhaaDoorMgM
import Derived.Test.YtnhkkemphjblhaaDoorMgE
import Derived.Test.YtnhkkemphjblhaaDoorMgC
import Derived.Test.YtnhkkemphjblhaaDoorMgH
import Derived.Deep.QuietTactic
import Derived.Maps.AppendAt
import Derived.Test.YtnhkkemphjblhaaDoorMgL
import Derived.ChangeSlices
import Derived.ChangeOld
/-
  Quality, and the document's.
-/
set_option linter.unusedVariables false
set_option linter.unusedSimpArgs false
namespace Go.Proofs.YtnhkkemphjblhaaDoor
open Go.RowKit Go.Shelf
namespace Ac
open Oc Tg

theorem zeros_list (k : Nat) (h : k ≤ 3) : ((⟨#[48, 48, 48]⟩ : ByteArray).extract k 3).data.toList = List.replicate (3 - k) 48 := by
  match k, h with
  | 0, _ => rfl
  | 1, _ => rfl
  | 2, _ => rfl
  | 3, _ => rfl

set_option maxRecDepth 100000 in
set_option maxHeartbeats 1000000 in
theorem Quality_any (s : ByteArray) (hs : s.size ≤ 4000000000) (w : World) (hw : ML w) :
    Calls Tryd.prog 26 #[.string s] w fun e w' => e = .returned (.tuple #[.int .i64 (qual s.data.toList).1, .int .i64 (qual s.data.toList).2]) ∧ Below w.heap.size w w' := by
  have HC := Cut_one s 46 hs w hw
  clear hw
  have hq : (if (cutA 46 s.data.toList).length ≠ 1 ∨ 3 < (cutB 46 s.data.toList).length then (0, 71) else if (numR 10 (qd s.data.toList) 1000).2 = 0 then ((numR 10 (qd s.data.toList) 1000).1, 0) else (0, 71)) = qual s.data.toList := rfl
  have hqd : qd s.data.toList = cutA 46 s.data.toList ++ cutB 46 s.data.toList ++ List.replicate (3 - (cutB 46 s.data.toList).length) 48 := rfl
  have la := cutA_len 46 s.data.toList
  have lb := cutB_len 46 s.data.toList
  rw [size_list] at la lb
  generalize qual s.data.toList = Q at *
  obtain ⟨Q1, Q2⟩ := Q
  generalize cutA 46 s.data.toList = A at *
  generalize cutB 46 s.data.toList = D at *
  generalize has 46 s.data.toList = H at *
  generalize qd s.data.toList = QD at *
  have sa : (str A).size = A.length := str_size A
  have sd : (str D).size = D.length := str_size D
  by_cases h1 : A.length = 1
  · by_cases h3 : 3 < D.length
    · have HQ : Hid ((Q1, Q2) = ((0 : Int), (71 : Int))) := by rw [if_pos (.inr h3)] at hq; exact hq.symm
      clear hq hqd
      have q1 : ((A.length : Int) != 1) = false := by simp; omega
      have q2 : decide (3 < (D.length : Int)) = true := decide_eq_true (by omega)
      go_enter Tryd.func26, Tryd.ntmps26
      go_wp2_with fail
      refine HC.mono ?_
      rintro e w2 ⟨rfl, hb2⟩
      go_wp2
      go_ret2
      obtain ⟨rfl, rfl⟩ := Prod.mk.injEq _ _ _ _ ▸ HQ.out
      exact ⟨rfl, hb2⟩
    · rw [if_neg (by omega)] at hq
      have q1 : ((A.length : Int) != 1) = false := by simp; omega
      have q2 : decide (3 < (D.length : Int)) = false := decide_eq_false (by omega)
      have HZ : Hid ((str A ++ str D ++ ((⟨#[48, 48, 48]⟩ : ByteArray).extract D.length 3)).data.toList = QD) := by
        show _ = _
        rw [hqd, ← zeros_list D.length (by omega)]
        simp [str_list]
      have hz : (str A ++ str D ++ ((⟨#[48, 48, 48]⟩ : ByteArray).extract D.length 3)).size = 4 := by
        rw [← size_list, HZ.out, hqd]; simp; omega
      have HD : Hid (∀ w, Calls Tryd.prog 50 #[.string (str A ++ str D ++ ((⟨#[48, 48, 48]⟩ : ByteArray).extract D.length 3)), .int .i64 1000] w fun e w' => e = .returned (.tuple #[.int .i64 (numR 10 QD 1000).1, .int .i64 (numR 10 QD 1000).2]) ∧ Below w.heap.size w w') := fun w => by
        have := Decimal_any (str A ++ str D ++ ((⟨#[48, 48, 48]⟩ : ByteArray).extract D.length 3)) (by rw [hz]; unfold maxLen; omega) 1000 (by omega) (by omega) w
        rw [HZ.out] at this
        exact this
      clear hqd hz HZ
      have HQ : Hid ((if (numR 10 QD 1000).2 = 0 then ((numR 10 QD 1000).1, 0) else (0, 71)) = (Q1, Q2)) := hq
      clear hq
      have hn : (numR 10 QD 1000).2 = 0 ∨ (numR 10 QD 1000).2 ≠ 0 := by omega
      generalize (numR 10 QD 1000).1 = n1 at *
      generalize (numR 10 QD 1000).2 = n2 at *
      go_enter Tryd.func26, Tryd.ntmps26
      go_wp2_with fail
      refine HC.mono ?_
      rintro e w2 ⟨rfl, hb2⟩
      have HB2 : Hid (Below w.heap.size w w2) := hb2
      clear hb2 HC
      go_wp2_with (go_at_call 50; refine (HD.out _).mono ?_; rintro e w3 ⟨rfl, hb3⟩)
      all_goals have HB3 : Hid (Below w.heap.size w w3) := bel_trans HB2.out hb3
      all_goals go_ret2
      · rename_i hne
        have := HQ.out
        rw [if_neg (by simpa using hne)] at this
        cases this
        exact ⟨rfl, HB3.out⟩
      · rename_i hne
        have := HQ.out
        rw [if_pos (by simpa using hne)] at this
        cases this
        exact ⟨rfl, HB3.out⟩
  · have HQ : Hid ((Q1, Q2) = ((0 : Int), (71 : Int))) := by rw [if_pos (.inl h1)] at hq; exact hq.symm
    clear hq hqd
    have q1 : ((A.length : Int) != 1) = true := by simp; omega
    go_enter Tryd.func26, Tryd.ntmps26
    go_wp2_with fail
    refine HC.mono ?_
    rintro e w2 ⟨rfl, hb2⟩
    go_wp2
    go_ret2
    obtain ⟨rfl, rfl⟩ := Prod.mk.injEq _ _ _ _ ▸ HQ.out
    exact ⟨rfl, hb2⟩

end Ac
end Go.Proofs.YtnhkkemphjblhaaDoor

/-
  Words with qualities: plainly; slices of them.
-/
set_option linter.unusedVariables false
set_option linter.unusedSimpArgs false
namespace Go.Proofs.YtnhkkemphjblhaaDoor
open Go.RowKit Go.Shelf
namespace Ac
open Oc Tg

/-- A word with its quality. -/
abbrev Wt := List UInt8 × Int
def encW1 (p : Wt) : List Value := [.string (str p.1), .int .i64 p.2]
def encW (ps : List Wt) : List Value := ps.flatMap encW1
theorem encW_snoc (ps : List Wt) (p : Wt) : encW (ps ++ [p]) = encW ps ++ encW1 p := by unfold encW; rw [List.flatMap_append]; simp
theorem encW_len : ∀ ps : List Wt, (encW ps).length = ps.length * 2
  | [] => rfl
  | p :: ps => by
    have := encW_len ps
    unfold encW at *
    rw [List.flatMap_cons, List.length_append, this, List.length_cons]
    show 2 + _ = _
    omega
/-- A slice of parameters (of the type T) of the call's own. -/
def OwnW (T B : Nat) (v : Value) (ps : List Wt) (w : World) : Prop := w.ownsRow B T 2 v ps.length (encW ps)
theorem ownW_nil (T B : Nat) (w : World) : OwnW T B (.slice none 0 0) [] w := World.ownsRow_nil w B T 2
theorem ownW_empty {B : Nat} (T : Nat) (w : World) (hB : B ≤ w.heap.size) : OwnW T B (.slice (some ⟨w.heap.size, 0, none⟩) 0 0) [] (w.alloc (.cells #[] T)) :=
  ⟨by simp [encW], .inr ⟨w.heap.size, 0, #[], rfl, hB, heap_alloc_new w _, by simp, by decide, by simp, by simp [encW]⟩⟩
theorem OwnW.below {T B : Nat} {v : Value} {t : List Wt} {w w' : World} (h : OwnW T B v t w) (b : Below w.heap.size w w') : OwnW T B v t w' := by
  refine ⟨h.1, ?_⟩
  rcases h.2 with hn | ⟨g, cap, cur, rfl, hb, hg, rest⟩
  · exact .inl hn
  · refine .inr ⟨g, cap, cur, rfl, hb, ?_, rest⟩
    have hlt : g < w.heap.size := by
      rcases Nat.lt_or_ge g w.heap.size with h | h
      · exact h
      · simp [Array.getElem?_eq_none h] at hg
    rw [b.block g hlt]
    exact hg

theorem OwnW.mono {T B B' : Nat} {v : Value} {t : List Wt} {w : World} (h : OwnW T B v t w) (hB : B' ≤ B) : OwnW T B' v t w := by
  refine ⟨h.1, ?_⟩
  rcases h.2 with hn | ⟨g, cap, cur, rfl, hb, rest⟩
  · exact .inl hn
  · exact .inr ⟨g, cap, cur, rfl, by omega, rest⟩
/-- A parameter appended to a slice of the call's own. -/
theorem wp_appW {ops : Array Oper} {rest : List Oper} {o : Oper} {a : Act} {Q : Exit → Act → World → Prop} (T S : Nat) (hinfo : (Tryd.prog.info? T).map (fun i => (i.zero, i.size, i.bytes)) = some (some (.agg #[.string ⟨#[]⟩, .int .i64 0]), 2, 24))
    (hund : Tryd.prog.underlying S = some (.slice T)) (hgd : o.guard = none) (s x : Operand)
    (ho : o.op = .call { callee := .builtin .append, args := #[s, x], argTypes := #[S, S] }) (B : Nat) (v : Value) (t : List Wt) (W : World) (p : Wt) (n1 : ByteArray) (n2 : Int) (h1 : n1 = str p.1) (h2 : n2 = p.2)
    (hs : a.eval s = v) (hown : OwnW T B v t W) (g : Nat) (hx : a.eval x = .slice (some ⟨g, 0, none⟩) 1 1) (hg : g = W.heap.size) (hlen : t.length + 1 ≤ 2147483648) (hB : B ≤ W.heap.size)
    (h : ∀ v' w', OwnW T B v' (t ++ [p]) w' → Below B W w' → wpList Tryd.prog ops Q rest (a.put o.dst v') w') : wpList Tryd.prog ops Q (o :: rest) a (W.alloc (.cells #[.string n1, .int .i64 n2] T)) := by
  subst h1 h2 hg
  obtain ⟨i0, hi, hz0, hz1, hz2⟩ := info_parts hinfo
  refine wpList_append_own _ hgd s x S ho B T i0 (.agg #[.string ⟨#[]⟩, .int .i64 0]) 2 24 hund hi hz0 hz1 hz2 rfl (by decide) v t.length _ hs (World.ownsRow.alloc hown _) ⟨W.heap.size, 0, none⟩ 1 1 (encW1 p) hx rfl ?_ ?_ ?_ ?_ ?_ ?_
  · intro j u hj
    unfold encW1 at hj
    match j, hj with
    | 0, hj => simp at hj; subst hj; simp [Addr.add]
    | 1, hj => simp at hj; subst hj; simp [Addr.add]
  · intro u hu
    unfold encW1 at hu
    simp at hu
    rcases hu with rfl | rfl <;> rfl
  · unfold maxLen; omega
  · omega
  · simp; omega
  · intro v' w' h1 h2 _
    refine h v' w' ?_ (((Below.refl B W).alloc hB _).grown h2 (by simp; omega) (fun k hk => (World.ownsRow.lt hown k hk).1))
    unfold OwnW
    rw [encW_snoc, List.length_append]
    exact h1

theorem infoW : (Tryd.prog.info? 66).map (fun i => (i.zero, i.size, i.bytes)) = some (some (.agg #[.string ⟨#[]⟩, .int .i64 0]), 2, 24) := by kernel_rfl

def nthW (t : List Wt) (j : Nat) : Wt := t.getD j ([], 0)
/-- A slice that reads as these parameters. -/
def RdW (v : Value) (t : List Wt) (w : World) : Prop :=
  ∃ a c, v = .slice a t.length c ∧ (t = [] ∨ ∃ g o, a = some ⟨g, o, none⟩ ∧ t.length ≤ c ∧ ∀ j, j < t.length → w.cell? ⟨g, o + j * 2, none⟩ = some (.string (str (nthW t j).1)) ∧ w.cell? ⟨g, o + j * 2 + 1, none⟩ = some (.int .i64 (nthW t j).2))
theorem encW_at : ∀ (t : List Wt) (j : Nat), j < t.length → (encW t)[j * 2]? = some (.string (str (nthW t j).1)) ∧ (encW t)[j * 2 + 1]? = some (.int .i64 (nthW t j).2)
  | [], j, h => by simp at h
  | p :: t, 0, _ => ⟨rfl, rfl⟩
  | p :: t, j + 1, h => by
    have ih := encW_at t j (by simpa using h)
    have e : encW (p :: t) = [.string (str p.1), .int .i64 p.2] ++ encW t := rfl
    rw [e]
    have n : nthW (p :: t) (j + 1) = nthW t j := by unfold nthW; simp
    rw [n, show (j + 1) * 2 = j * 2 + 2 by omega, show j * 2 + 2 + 1 = (j * 2 + 1) + 2 by omega]
    exact ih
theorem OwnW.rd {T B : Nat} {v : Value} {t : List Wt} {w : World} (h : OwnW T B v t w) : RdW v t w := by
  have hall := h
  rcases h.2 with ⟨rfl, h0⟩ | ⟨g, cap, cur, rfl, _, hg, hn, _⟩
  · exact ⟨none, 0, by rw [h0], .inl (List.length_eq_zero_iff.1 h0)⟩
  · refine ⟨_, _, rfl, .inr ⟨g, 0, rfl, by omega, fun j hj => ?_⟩⟩
    obtain ⟨e0, e1⟩ := encW_at t j hj
    have ea : ∀ k, Addr.add ⟨g, 0, none⟩ k = ⟨g, 0 + k, none⟩ := fun k => by unfold Addr.add; split <;> simp_all
    have c0 := World.ownsRow.cells hall (g := g) rfl _ _ e0
    have c1 := World.ownsRow.cells hall (g := g) rfl _ _ e1
    rw [ea] at c0 c1
    exact ⟨c0, c1⟩
theorem RdW.below {v : Value} {t : List Wt} {w w' : World} (h : RdW v t w) (b : Below w.heap.size w w') : RdW v t w' := by
  obtain ⟨a, c, rfl, h⟩ := h
  refine ⟨a, c, rfl, ?_⟩
  rcases h with h | ⟨g, o, e, hc, hcell⟩
  · exact .inl h
  · refine .inr ⟨g, o, e, hc, fun j hj => ?_⟩
    obtain ⟨h1, h2⟩ := hcell j hj
    rw [b.cell (p := ⟨g, o + j * 2, none⟩) (World.block_lt_of_cell? w _ h1), b.cell (p := ⟨g, o + j * 2 + 1, none⟩) (World.block_lt_of_cell? w _ h2)]
    exact ⟨h1, h2⟩
theorem infoW2 : (Tryd.prog.info? 67).map (fun i => (i.zero, i.size, i.bytes)) = some (some (.agg #[.string ⟨#[]⟩, .int .i64 0]), 2, 24) := by kernel_rfl

/-- What the first q says. -/
def wq (ps : List Prm) : Int × Int := match ps.find? isQ with | none => (1000, 0) | some p => qual p.2.1
/-- A word with its quality, or an error. -/
def wt (l : List UInt8) : Wt × Int := match wrd l with
  | none => (([], 0), 10)
  | some x => if (wq x.2).2 = 0 then ((lower x.1, (wq x.2).1), 0) else (([], 0), (wq x.2).2)
def wts : List (List UInt8) → List Wt × Int
  | [] => ([], 0)
  | x :: r => if (wt x).2 ≠ 0 then ([], (wt x).2) else if (wts r).2 ≠ 0 then ([], (wts r).2) else ((wt x).1 :: (wts r).1, 0)
def weightsR (l : List UInt8) : List Wt × Int := if (listR l).2 ≠ 0 then ([], (listR l).2) else wts (listR l).1
theorem wts_err : ∀ (t : List (List UInt8)) (k : Nat), k < t.length → (∀ j, j < k → (wt (t.getD j [])).2 = 0) → (wt (t.getD k [])).2 ≠ 0 → wts t = ([], (wt (t.getD k [])).2)
  | [], k, h, _, _ => by simp at h
  | x :: t, 0, _, _, h => by
    have h' : (wt x).2 ≠ 0 := h
    unfold wts
    rw [if_pos h']
    rfl
  | x :: t, k + 1, hk, hall, h => by
    have h0 : (wt x).2 = 0 := hall 0 (by omega)
    have ih := wts_err t k (by simpa using hk) (fun j hj => hall (j + 1) (by omega)) h
    have e : (x :: t).getD (k + 1) [] = t.getD k [] := by simp
    rw [e] at h ⊢
    unfold wts
    rw [if_neg (by simp [h0]), ih, if_pos h]
theorem wts_ok : ∀ (t : List (List UInt8)), (∀ j, j < t.length → (wt (t.getD j [])).2 = 0) → wts t = (t.map (fun x => (wt x).1), 0)
  | [], _ => rfl
  | x :: t, hall => by
    have h0 : (wt x).2 = 0 := hall 0 (by simp)
    have ih := wts_ok t (fun j hj => hall (j + 1) (by simpa using hj))
    unfold wts
    rw [if_neg (by simp [h0]), ih, if_neg (by simp)]
    rfl
theorem take_wt (t : List (List UInt8)) (k : Nat) (hk : k < t.length) : (t.take (k + 1)).map (fun x => (wt x).1) = (t.take k).map (fun x => (wt x).1) ++ [(wt (t.getD k [])).1] := by
  rw [List.take_succ_eq_append_getElem hk, List.map_append, List.getD_eq_getElem?_getD, List.getElem?_eq_getElem hk]
  rfl
/-- Parameters without a value have the empty text. -/
def Bare (ps : List Prm) : Prop := ∀ p ∈ ps, p.2.2 = false → p.2.1 = []
theorem pstep_bare (r : List UInt8) (x : Nat × List Prm) (h : pstep r = some (some x)) : Bare x.2 := by
  unfold pstep at h
  split at h
  · obtain ⟨y, hy, e⟩ := Option.map_eq_some_iff.1 h
    cases e
    intro p hp hb
    split at hp
    · cases hp
    · simp at hp
      subst hp
      unfold rp at hy
      split at hy
      · obtain ⟨z, hz, e⟩ := Option.map_eq_some_iff.1 hy
        cases e
        cases hb
      · cases hy
        rfl
  · cases h
theorem pgo_bare : ∀ (f : Nat) (r : List UInt8) (y : List Prm × Nat), pgo f r = some y → Bare y.1
  | 0, r, y, h => by cases h
  | f + 1, r, y, h => by
    rw [pgo] at h
    cases hp : pstep r with
    | none => rw [hp] at h; cases h
    | some o =>
      rw [hp] at h
      cases o with
      | none =>
        cases h
        intro p hp
        cases hp
      | some x =>
        have he := pstep_bare r x hp
        obtain ⟨z, hz, e⟩ := Option.map_eq_some_iff.1 h
        have ih := pgo_bare f _ z hz
        cases e
        intro p hp
        rcases List.mem_append.1 hp with h | h
        · exact he p h
        · exact ih p h
theorem params_bare (l : List UInt8) : Bare (paramsR l).1 := by
  unfold paramsR
  cases h : prm l with
  | none => intro p hp; cases hp
  | some y => exact pgo_bare _ _ _ h

end Ac
end Go.Proofs.YtnhkkemphjblhaaDoor

/-
  A slice of words with qualities that came in.
-/
set_option linter.unusedVariables false
set_option linter.unusedSimpArgs false
namespace Go.Proofs.YtnhkkemphjblhaaDoor
open Go.ChangeShapes Go.WideShapes Go.RowKit
namespace Ac
open Oc

theorem cellsWt : Tryd.prog.cellsOf 66 = 2 := by kernel_rfl
theorem cellsI3 : Tryd.prog.cellsOf 3 = 1 := by kernel_rfl
def szW (p : Wt) : Nat := p.1.length + 3
def bulkweights (t : List Wt) : Nat := (t.map szW).sum
def inI (z : Int) : Prop := -9223372036854775808 ≤ z ∧ z ≤ 9223372036854775807
theorem inI_of_wf {x : Int} (h : (Lit.int .i64 x).wf = true) : inI x := by
  have h1 : IntKind.i64.min = -9223372036854775808 := rfl
  have h2 : IntKind.i64.max = 9223372036854775807 := rfl
  simp only [Lit.wf, Bool.and_eq_true, decide_eq_true_eq] at h
  unfold inI
  omega
/-- Each text is at most so long, each quality an int. -/
def EachW (M : Nat) (t : List Wt) : Prop := ∀ p ∈ t, p.1.length ≤ M ∧ inI p.2
theorem EachW.at {M : Nat} {t : List Wt} (h : EachW M t) {k : Nat} (hk : k < t.length) : (nthW t k).1.length ≤ M ∧ inI (nthW t k).2 := by
  refine h _ ?_
  unfold nthW
  rw [List.getD_eq_getElem?_getD, List.getElem?_eq_getElem hk]
  exact List.getElem_mem hk
theorem len_bulkW : ∀ t : List Wt, t.length * 3 ≤ bulkweights t
  | [] => Nat.zero_le _
  | p :: t => by
    have := len_bulkW t
    simp only [bulkweights, List.map_cons, List.sum_cons, List.length_cons, szW] at this ⊢
    omega
theorem each_bulkW : ∀ (t : List Wt) (p : Wt), p ∈ t → p.1.length ≤ bulkweights t
  | [], p, hp => by cases hp
  | q :: t, p, hp => by
    simp only [bulkweights, List.map_cons, List.sum_cons, szW]
    rcases List.mem_cons.1 hp with rfl | hp
    · omega
    · have := each_bulkW t p hp
      simp only [bulkweights, szW] at this
      omega
def wtOf {H : Type} (y : DataW H × List MemPlace) : Wt := match y.1 with | .agg [.lit (.string a), .lit (.int _ b)] => (a, b) | _ => ([], 0)
theorem bulk_wtsO {H : Type} : ∀ es : List (DataW H × List MemPlace), (∀ y ∈ es, ∃ a b, y.1 = .agg [.lit (.string a), .lit (.int .i64 b)]) → Rows.uptoBulkAll (es.map (·.1)) = bulkweights (es.map wtOf)
  | [], _ => by simp [bulkweights, Rows.uptoBulkAll]
  | y :: es, h => by
    have ih := bulk_wtsO es (fun z hz => h z (List.mem_cons_of_mem _ hz))
    obtain ⟨a, b, e⟩ := h y (by simp)
    simp only [bulkweights, List.map_cons, List.sum_cons, Rows.uptoBulkAll, ih, e, wtOf, szW, Rows.uptoBulk] at ih ⊢
theorem addr_addW (g o k : Nat) : Addr.add ⟨g, o, none⟩ k = ⟨g, o + k, none⟩ := by unfold Addr.add; split <;> simp_all
/-- The form of a slice of none. -/
def NilW (v : Value) (t : List Wt) : Prop := t = [] → v = .slice none 0 0 ∨ ∃ g c, v = .slice (some g) 0 c
set_option maxRecDepth 100000 in
theorem open_weights {H : Type} {enc : TypeId × Value → H} {W : World} {base : Nat} {v : Value} {d : DataW H} {ps : List MemPlace} (hval : Value.okWide Tryd.prog W .any base 39 v)
    (h : DataW.Trod enc Tryd.prog W 0 (fun _ => true) true 39 v d ps) : ∃ t : List Wt, (RdW v t W ∧ NilW v t ∧ ∀ p ∈ t, inI p.2) ∧ bulkweights t ≤ Rows.uptoBulk d := by
  obtain ⟨a0, len, cap, rfl⟩ := okWide_slice Tryd.underlying39 hval
  obtain ⟨fuel, hf⟩ := h
  rcases DataW.trod_slice Tryd.underlying39 hf with ⟨hcs, hx⟩ | ⟨a, len', cap', elems, rest, n, _, hcs, hx, hb, hl, hm, hlen, hel, _, _⟩
  · simp [Value.cells] at hcs
    obtain ⟨rfl, rfl, rfl⟩ := hcs
    exact ⟨[], ⟨⟨none, 0, rfl, .inl rfl⟩, fun _ => .inl rfl, fun p hp => by cases hp⟩, by simp [bulkweights]⟩
  · simp [Value.cells] at hcs
    obtain ⟨rfl, rfl, rfl⟩ := hcs
    simp only [Prod.mk.injEq] at hx
    obtain ⟨rfl, rfl⟩ := hx
    have each : ∀ i y, elems[i]? = some y → ∃ (s1 : ByteArray) (s2 : Int), y.1 = .agg [.lit (.string s1.data.toList), .lit (.int .i64 s2)] ∧ inI s2 ∧ W.cell? ((a.add (i * 2)).add 0) = some (.string s1) ∧ W.cell? ((a.add (i * 2)).add 1) = some (.int .i64 s2) := by
      intro i y hy
      have hi : i < len := by rw [← hlen]; exact (List.getElem?_eq_some_iff.1 hy).1
      have h1 := hel i hi
      rw [hy, cellsWt, Option.bind_eq_some_iff] at h1
      obtain ⟨cs, hcs, ht⟩ := h1
      obtain ⟨ys, m, _, hx, hl4, hy4, hfs⟩ := DataW.trod_struct Tryd.underlying66 ht
      rw [cellsWt] at hl4
      have hcc := (World.cells?_some hcs).2.2
      have t0 := hfs 0 _ rfl
      have t1 := hfs 1 _ rfl
      match cs, hl4 with
      | [x0, x1], _ =>
        match ys, hy4 with
        | [y0, y1], _ =>
          simp [cells9, cellsI3] at t0 t1
          obtain ⟨m0, e0, q0, _⟩ := DataW.trod_string Tryd.underlying9 t0
          obtain ⟨m1, e1, q1, w1⟩ := DataW.trod_int Tryd.underlying3 t1
          simp at e0 e1
          subst e0 e1
          subst q0 q1
          refine ⟨m0, m1, ?_, inI_of_wf w1, hcc 0 (by omega), hcc 1 (by omega)⟩
          rw [hx]
          rfl
    refine ⟨elems.map wtOf, ⟨⟨some a, cap, by rw [List.length_map, hlen], ?_⟩, fun e => .inr ⟨a, cap, by have := congrArg List.length e; rw [List.length_map, hlen] at this; rw [this]; rfl⟩, ?_⟩, ?_⟩
    · by_cases hl0 : len = 0
      · left
        have : elems = [] := List.length_eq_zero_iff.1 (by omega)
        rw [this]; rfl
      · right
        obtain ⟨g, o, spot⟩ := a
        have hspot : spot = none := by
          obtain ⟨y, hy⟩ : ∃ y, elems[0]? = some y := ⟨elems[0]'(by omega), List.getElem?_eq_getElem (by omega)⟩
          obtain ⟨s1, s2, _, _, c0, _⟩ := each 0 y hy
          simpa [Addr.add] using World.cell?_spot c0
        subst hspot
        refine ⟨g, o, rfl, by rw [List.length_map, hlen]; exact hl, fun j hj => ?_⟩
        rw [List.length_map] at hj
        obtain ⟨s1, s2, ey, _, c0, c1⟩ := each j _ (List.getElem?_eq_getElem hj)
        have en : nthW (elems.map wtOf) j = (s1.data.toList, s2) := by
          unfold nthW
          rw [List.getD_eq_getElem?_getD, List.getElem?_map, List.getElem?_eq_getElem hj]
          show wtOf elems[j] = _
          unfold wtOf
          rw [ey]
        rw [addr_addW, addr_addW] at c0 c1
        rw [en]
        dsimp only
        rw [str_self]
        exact ⟨c0, c1⟩
    · intro p hp
      obtain ⟨y, hy, rfl⟩ := List.mem_map.1 hp
      obtain ⟨i, hi⟩ := List.getElem?_of_mem hy
      obtain ⟨s1, s2, ey, hin, _, _⟩ := each i y hi
      unfold wtOf
      rw [ey]
      exact hin
    · have hb := bulk_wtsO elems (fun y hy => by
        obtain ⟨i, hi⟩ := List.getElem?_of_mem hy
        obtain ⟨s1, s2, ey, _⟩ := each i y hi
        exact ⟨_, _, ey⟩)
      simp only [Rows.uptoBulk, hb]
      omega

end Ac
end Go.Proofs.YtnhkkemphjblhaaDoor
