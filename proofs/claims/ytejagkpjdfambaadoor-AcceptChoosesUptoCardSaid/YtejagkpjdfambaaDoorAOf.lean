/-
  The law's offers; the document's Choose.
-/
import Derived.Test.YtejagkpjdfambaaDoorARg
import Derived.Test.YtejagkpjdfambaaDoorARl
import Derived.Test.YtejagkpjdfambaaDoorACm
set_option maxRecDepth 100000
set_option linter.unusedVariables false
set_option linter.unusedSimpArgs false
namespace Go.Proofs.YtejagkpjdfambaaDoor
open Go.RowKit Go.Shelf
namespace Ac
open Oc Tg

/-- A media type as its cells lie. -/
structure Mw where
  ty : ByteArray
  sub : ByteArray
  a : Option Addr
  n : Nat
  c : Nat
def mw0 : Mw := ⟨⟨#[]⟩, ⟨#[]⟩, none, 0, 0⟩
def nthQ (t : List Mw) (j : Nat) : Mw := t.getD j mw0
def encQ1 (r : Mw) : List Value := [.string r.ty, .string r.sub, .slice r.a r.n r.c]
def encQ (l : List Mw) : List Value := l.flatMap encQ1
theorem encQ_snoc (l : List Mw) (r : Mw) : encQ (l ++ [r]) = encQ l ++ encQ1 r := by unfold encQ; rw [List.flatMap_append]; simp
def OwnQ (T B : Nat) (v : Value) (l : List Mw) (w : World) : Prop := w.ownsRow B T 3 v l.length (encQ l)
theorem ownQ_empty {B : Nat} (T : Nat) (w : World) (hB : B ≤ w.heap.size) : OwnQ T B (.slice (some ⟨w.heap.size, 0, none⟩) 0 0) [] (w.alloc (.cells #[] T)) :=
  ⟨by simp [encQ], .inr ⟨w.heap.size, 0, #[], rfl, hB, heap_alloc_new w _, by simp, by decide, by simp, by simp [encQ]⟩⟩
theorem OwnQ.below {T B : Nat} {v : Value} {t : List Mw} {w w' : World} (h : OwnQ T B v t w) (b : Below w.heap.size w w') : OwnQ T B v t w' := by
  refine ⟨h.1, ?_⟩
  rcases h.2 with hn | ⟨g, cap, cur, rfl, hb, hg, rest⟩
  · exact .inl hn
  · exact .inr ⟨g, cap, cur, rfl, hb, (b.block g (Array.getElem?_eq_some_iff.1 hg).1).trans hg, rest⟩
theorem infoQ : (Tryd.prog.info? 33).map (fun i => (i.zero, i.size, i.bytes)) = some (some (.agg #[.string ⟨#[]⟩, .string ⟨#[]⟩, .slice none 0 0]), 3, 56) := by kernel_rfl

theorem wp_appQ {ops : Array Oper} {rest : List Oper} {o : Oper} {a : Act} {Q : Exit → Act → World → Prop} (T S : Nat) (hinfo : (Tryd.prog.info? T).map (fun i => (i.zero, i.size, i.bytes)) = some (some (.agg #[.string ⟨#[]⟩, .string ⟨#[]⟩, .slice none 0 0]), 3, 56))
    (hund : Tryd.prog.underlying S = some (.slice T)) (hgd : o.guard = none) (s x : Operand)
    (ho : o.op = .call { callee := .builtin .append, args := #[s, x], argTypes := #[S, S] }) (B : Nat) (v : Value) (t : List Mw) (W : World) (p : Mw)
    (hs : a.eval s = v) (hown : OwnQ T B v t W) (g : Nat) (hx : a.eval x = .slice (some ⟨g, 0, none⟩) 1 1) (hg : g = W.heap.size) (hlen : t.length + 1 ≤ 2147483648) (hB : B ≤ W.heap.size)
    (h : ∀ v' w', OwnQ T B v' (t ++ [p]) w' → Below B W w' → (∀ k, k < W.heap.size → v.ownBlock ≠ some k → w'.heap[k]? = W.heap[k]?) → wpList Tryd.prog ops Q rest (a.put o.dst v') w') : wpList Tryd.prog ops Q (o :: rest) a (W.alloc (.cells #[.string p.ty, .string p.sub, .slice p.a p.n p.c] T)) := by
  subst hg
  obtain ⟨i0, hi, hz0, hz1, hz2⟩ := info_parts hinfo
  refine wpList_append_own_at _ hgd s x S ho B T i0 (.agg #[.string ⟨#[]⟩, .string ⟨#[]⟩, .slice none 0 0]) 3 56 hund hi hz0 hz1 hz2 rfl (by decide) v t.length _ hs (World.ownsRow.alloc hown _) ⟨W.heap.size, 0, none⟩ 1 1 (encQ1 p) hx rfl ?_ ?_ ?_ ?_ ?_ ?_
  · intro j u hj
    unfold encQ1 at hj
    match j, hj with
    | 0, hj => simp at hj; subst hj; simp [Addr.add]
    | 1, hj => simp at hj; subst hj; simp [Addr.add]
    | 2, hj => simp at hj; subst hj; simp [Addr.add]
  · intro u hu
    unfold encQ1 at hu
    simp at hu
    rcases hu with rfl | rfl | rfl <;> rfl
  · unfold maxLen; omega
  · omega
  · simp; omega
  · intro v' w' h1 h2 _ h4
    refine h v' w' ?_ (((Below.refl B W).alloc hB _).grown h2 (by simp; omega) (fun k hk => (World.ownsRow.lt hown k hk).1)) (fun k hk hne => (h2.block k (by simp; omega) (fun e => hne e.symm)).trans (Lib.alloc_old W _ k hk))
    unfold OwnQ
    rw [encQ_snoc, List.length_append]
    exact h1
theorem encQ_at : ∀ (t : List Mw) (j : Nat), j < t.length → (encQ t)[j * 3]? = some (.string (nthQ t j).ty) ∧ (encQ t)[j * 3 + 1]? = some (.string (nthQ t j).sub) ∧ (encQ t)[j * 3 + 2]? = some (.slice (nthQ t j).a (nthQ t j).n (nthQ t j).c)
  | [], j, h => by simp at h
  | p :: t, 0, _ => ⟨rfl, rfl, rfl⟩
  | p :: t, j + 1, h => by
    have ih := encQ_at t j (by simpa using h)
    have e : encQ (p :: t) = [.string p.ty, .string p.sub, .slice p.a p.n p.c] ++ encQ t := rfl
    rw [e]
    have n : nthQ (p :: t) (j + 1) = nthQ t j := by unfold nthQ; simp
    rw [n, show (j + 1) * 3 = j * 3 + 3 by omega, show j * 3 + 3 + 1 = (j * 3 + 1) + 3 by omega, show j * 3 + 3 + 2 = (j * 3 + 2) + 3 by omega]
    exact ih
theorem keepQP {T T' B B' : Nat} {v u : Value} {t : List Mw} {ps : List Prm} {W w' : World} (ho : OwnQ T B v t W) (hp : OwnP T' B' u ps W) (hT : T' ≠ T) (hk : ∀ k, k < W.heap.size → v.ownBlock ≠ some k → w'.heap[k]? = W.heap[k]?) : OwnP T' B' u ps w' := by
  refine ⟨hp.1, ?_⟩
  rcases hp.2 with hn | ⟨g, cap, cur, rfl, hb, hg, rest⟩
  · exact .inl hn
  · refine .inr ⟨g, cap, cur, rfl, hb, ?_, rest⟩
    rw [hk g (Array.getElem?_eq_some_iff.1 hg).1 ?_]
    · exact hg
    · intro e
      rcases ho.2 with ⟨rfl, _⟩ | ⟨g2, cap2, cur2, rfl, _, hg2, _⟩
      · cases e
      · have e' : g2 = g := by simpa [Value.ownBlock] using e
        subst e'
        rw [hg] at hg2
        simp at hg2
        exact hT hg2.2
def LikeQ (T : Nat) (ms : List Mw) (t : List Md) (W : World) : Prop := ∀ j, j < ms.length → (nthQ ms j).ty = (nthM t j).ty ∧ (nthQ ms j).sub = (nthM t j).sub ∧ OwnP T 0 (.slice (nthQ ms j).a (nthQ ms j).n (nthQ ms j).c) (nthM t j).ps W
theorem LikeQ.below {T : Nat} {ms : List Mw} {t : List Md} {W W' : World} (h : LikeQ T ms t W) (b : Below W.heap.size W W') : LikeQ T ms t W' := fun j hj => by
  obtain ⟨h1, h2, h4⟩ := h j hj
  exact ⟨h1, h2, h4.below b⟩
theorem nthQ_snoc (ms : List Mw) (r : Mw) : nthQ (ms ++ [r]) ms.length = r := by unfold nthQ; simp [List.getD_eq_getElem?_getD]
theorem nthQ_old (ms : List Mw) (r : Mw) {j : Nat} (h : j < ms.length) : nthQ (ms ++ [r]) j = nthQ ms j := by
  unfold nthQ
  rw [List.getD_eq_getElem?_getD, List.getD_eq_getElem?_getD, List.getElem?_append_left h]
theorem LikeQ.snoc {T T' B n c : Nat} {a : Option Addr} {ms : List Mw} {t : List Md} {v7 : Value} {W w7 : World} {N1 N2 : ByteArray} (hl : LikeQ T ms t W) (ho : OwnQ T' B v7 ms W) (hT : T ≠ T') (hp : OwnP T 0 (.slice a n c) (nthM t ms.length).ps W) (hk : ∀ k, k < W.heap.size → v7.ownBlock ≠ some k → w7.heap[k]? = W.heap[k]?) (e1 : N1 = (nthM t ms.length).ty) (e2 : N2 = (nthM t ms.length).sub) : LikeQ T (ms ++ [⟨N1, N2, a, n, c⟩]) t w7 := by
  intro j hj
  rw [List.length_append] at hj
  rcases Nat.lt_or_ge j ms.length with h | h
  · rw [nthQ_old _ _ h]
    obtain ⟨h1, h2, h4⟩ := hl j h
    exact ⟨h1, h2, keepQP ho h4 hT hk⟩
  · obtain rfl : j = ms.length := by simp at hj; omega
    rw [nthQ_snoc]
    exact ⟨e1, e2, keepQP ho hp hT hk⟩
theorem RdMs.of_like {T T' B : Nat} {ms : List Mw} {t : List Md} {v : Value} {W : World} (h : OwnQ T B v ms W) (hl : LikeQ T' ms t W) (hn : ms.length = t.length) : RdMs v t W := by
  have hall := h
  rcases h.2 with ⟨rfl, h0⟩ | ⟨g, cap, cur, rfl, _, hg, hnn, _⟩
  · have ht : t = [] := List.length_eq_zero_iff.1 (by rw [← hn]; exact h0)
    exact ⟨none, 0, by rw [ht]; rfl, .inl ht⟩
  · refine ⟨_, _, by rw [← hn], .inr ⟨g, 0, rfl, by omega, fun j hj => ?_⟩⟩
    obtain ⟨e0, e1, e2⟩ := encQ_at ms j (by omega)
    have ea : ∀ k, Addr.add ⟨g, 0, none⟩ k = ⟨g, 0 + k, none⟩ := fun k => by unfold Addr.add; split <;> simp_all
    have c0 := World.ownsRow.cells hall (g := g) rfl _ _ e0
    have c1 := World.ownsRow.cells hall (g := g) rfl _ _ e1
    have c2 := World.ownsRow.cells hall (g := g) rfl _ _ e2
    rw [ea] at c0 c1 c2
    obtain ⟨l0, l1, l2⟩ := hl j (by omega)
    rw [l0] at c0
    rw [l1] at c1
    exact ⟨c0, c1, _, c2, l2.rd, nilP_own l2⟩

set_option maxHeartbeats 4000000 in
theorem offers_any (v : Value) (t : List Md) (ht : ∀ r ∈ t, OkMd r) (hl : t.length ≤ 16777216) (w : World) (hv : RdMs v t w) :
    Calls Tryd.prog 14 #[v] w fun e w' => ∃ u, e = .returned u ∧ RdMs u t w' ∧ Below w.heap.size w w' := by
  have HT : Hid (RdMs v t w) := hv
  have HOk : Hid (∀ r ∈ t, OkMd r) := ht
  obtain ⟨va, vc, rfl, hv⟩ := hv
  clear ht hv
  go_enter Tryd.func14, Tryd.ntmps14
  go_wp2
  go_loopw [3, 4] (fun ov i wr => ∃ (k : Nat) (ms : List Mw), k ≤ t.length ∧ i = .int .i64 k ∧ Hid (OwnQ 33 w.heap.size ov ms wr) ∧ Hid (ms.length = k) ∧ Hid (LikeQ 61 ms t wr) ∧ Hid (Below w.heap.size w wr)) (fun _ i _ => t.length - (intOf i).toNat)
  case atStart => exact ⟨0, [], Nat.zero_le _, rfl, ownQ_empty _ w (Nat.le_refl _), (rfl : _ = _), (fun j hj => by simp at hj : LikeQ _ _ _ _), (Below.refl _ w).alloc (Nat.le_refl _) _⟩
  case round =>
    obtain ⟨k, ms, hk, rfl, hown, hmk, hlike, hbl⟩ := hrel
    by_cases hlt : k < t.length
    · obtain ⟨a', c', e', hcs⟩ := HT.out.below hbl.out
      injection e' with e1 _ e2
      subst e1 e2
      rcases hcs with h | ⟨g, o, rfl, hlc, hcell⟩
      · rw [h] at hlt; simp at hlt
      obtain ⟨p0, p1, u', p2, hrp, _⟩ := hcell k hlt
      have hok := OkMs.at HOk.out hlt
      have HD : Hid (Calls Tryd.prog 10 #[.agg #[.string (nthM t k).ty, .string (nthM t k).sub, u']] wr fun e w' => ∃ a n c, e = .returned (.agg #[.string (nthM t k).ty, .string (nthM t k).sub, .slice a n c]) ∧ OwnP 61 0 (.slice a n c) (nthM t k).ps w' ∧ Below wr.heap.size wr w') := (media_any _ _ u' _ hok.2.2.2 wr hrp).mono fun e w' ⟨x, he, ho, hb⟩ => by
        have ho' := ho
        obtain ⟨a, c, rfl, hh⟩ := OwnP.rd ho'
        exact ⟨a, _, c, he, OwnP.mono ho (Nat.zero_le _), hb⟩
      obtain ⟨ra, rc, rfl, _⟩ := hrp
      have E1 : Hid ((nthM t k).ty = (nthM t ms.length).ty ∧ (nthM t k).sub = (nthM t ms.length).sub ∧ (nthM t k).ps = (nthM t ms.length).ps) := (by rw [hmk.out]; exact ⟨rfl, rfl, rfl⟩ : _ ∧ _)
      have hml : Hid (ms.length + 1 ≤ 2147483648) := (by rw [hmk.out]; omega : ms.length + 1 ≤ 2147483648)
      have hki : (k : Int) < (t.length : Int) := by omega
      clear hcell hok
      generalize (nthM t k).ty = N1 at *
      generalize (nthM t k).sub = N2 at *
      generalize (nthM t k).ps = ps at *
      go_wp2_with fail
      refine HD.out.mono ?_
      rintro e w5 ⟨xa, xn, xc, rfl, hp5, hb5⟩
      have HB5 : Hid (Below wr.heap.size wr w5) := hb5
      have HP5 : Hid (OwnP 61 0 (.slice xa xn xc) ps w5) := hp5
      have O5 : Hid (OwnQ 33 w.heap.size _ ms w5) := hown.out.below hb5
      have hB5 : w.heap.size ≤ w5.heap.size := Nat.le_trans hbl.out.size hb5.size
      clear hb5 hp5
      go_wp2_with (at_builtin; go_must (refine wp_appQ 33 40 infoQ Tryd.underlying40 rfl (.tmp 12) (.tmp 18) rfl w.heap.size _ ms _ ⟨N1, N2, xa, xn, xc⟩ rfl O5.out _ (by simp [Act.eval, Act.put]) rfl hml.out hB5 ?_); intro v7 w7 hown7 hb7 hkeep)
      have HO7 : Hid (OwnQ 33 w.heap.size v7 (ms ++ [⟨N1, N2, xa, xn, xc⟩]) w7) := hown7
      have HK7 : Hid (LikeQ 61 (ms ++ [⟨N1, N2, xa, xn, xc⟩]) t w7) := LikeQ.snoc (hlike.out.below HB5.out) O5.out (by decide) (by rw [← E1.out.2.2]; exact HP5.out) hkeep E1.out.1 E1.out.2.1
      have HB7 : Hid (Below w.heap.size w w7) := (bel_trans hbl.out HB5.out).trans hb7
      clear hown7 hb7 hkeep
      go_roundw
      case rel => exact ⟨k + 1, _, by omega, by go_num, HO7, (by rw [List.length_append, hmk.out]; rfl : _ = _), HK7, HB7⟩
      case measure => simp [intOf]; omega
    · obtain rfl : k = t.length := by omega
      go_wp2
      go_ret
      exact ⟨_, rfl, RdMs.of_like hown.out hlike.out hmk.out, hbl.out⟩

end Ac
end Go.Proofs.YtejagkpjdfambaaDoor
