/-
  The law's ranges: ranges as the document has them.
-/
import Derived.Test.YtejagkpjdfambaaDoorALi
import Derived.Test.YtejagkpjdfambaaDoorMgQ
import Derived.Deep.RegionLaw
import Derived.Laws.AppendOwn
set_option maxRecDepth 100000
set_option linter.unusedVariables false
set_option linter.unusedSimpArgs false
namespace Go.Proofs.YtejagkpjdfambaaDoor
open Go.RowKit Go.Shelf
namespace Ac
open Oc Tg

theorem infoO2 : (Tryd.prog.info? 46).map (fun i => (i.zero, i.size, i.bytes)) = some (some (.agg #[.string ⟨#[]⟩, .string ⟨#[]⟩, .slice none 0 0, .int .i64 0]), 4, 64) := by kernel_rfl
theorem ownO_empty {B : Nat} (T : Nat) (w : World) (hB : B ≤ w.heap.size) : OwnO T B (.slice (some ⟨w.heap.size, 0, none⟩) 0 0) [] (w.alloc (.cells #[] T)) :=
  ⟨by simp [encO], .inr ⟨w.heap.size, 0, #[], rfl, hB, heap_alloc_new w _, by simp, by decide, by simp, by simp [encO]⟩⟩

theorem step_appO {ops : Array Oper} {o : Oper} {a : Act} {K : Act → World → Prop} {Q : Exit → Act → World → Prop} {E : Prop} (T S : Nat) (hinfo : (Tryd.prog.info? T).map (fun i => (i.zero, i.size, i.bytes)) = some (some (.agg #[.string ⟨#[]⟩, .string ⟨#[]⟩, .slice none 0 0, .int .i64 0]), 4, 64))
    (hund : Tryd.prog.underlying S = some (.slice T)) (hgd : o.guard = none) (s x : Operand)
    (ho : o.op = .call { callee := .builtin .append, args := #[s, x], argTypes := #[S, S] }) (B : Nat) (v : Value) (t : List Rw) (W : World) (p : Rw)
    (hs : a.eval s = v) (hown : OwnO T B v t W) (g : Nat) (hx : a.eval x = .slice (some ⟨g, 0, none⟩) 1 1) (hg : g = W.heap.size) (hlen : t.length + 1 ≤ 2147483648) (hB : B ≤ W.heap.size)
    (h : ∀ v' w', OwnO T B v' (t ++ [p]) w' → Below B W w' → (∀ k, k < W.heap.size → v.ownBlock ≠ some k → w'.heap[k]? = W.heap[k]?) → K (a.put o.dst v') w') : if Region.wanted o (yielded ops a.tmps) = true then Oper.wp Tryd.prog o a (W.alloc (.cells #[.string p.ty, .string p.sub, .slice p.a p.n p.c, .int .i64 p.q] T)) K Q else E := by
  subst hg
  have hw : Region.wanted o (yielded ops a.tmps) = true := by simp [Region.wanted, hgd]
  rw [if_pos hw]
  obtain ⟨i0, hi, hz0, hz1, hz2⟩ := info_parts hinfo
  refine wp_append_own _ s x S ho B T i0 (.agg #[.string ⟨#[]⟩, .string ⟨#[]⟩, .slice none 0 0, .int .i64 0]) 4 64 hund hi hz0 hz1 hz2 rfl (by decide) v t.length _ hs (World.ownsRow.alloc hown _) ⟨W.heap.size, 0, none⟩ 1 1 (encO1 p) hx rfl ?_ ?_ ?_ ?_ ?_ ?_
  · intro j u hj
    unfold encO1 at hj
    match j, hj with
    | 0, hj => simp at hj; subst hj; simp [Addr.add]
    | 1, hj => simp at hj; subst hj; simp [Addr.add]
    | 2, hj => simp at hj; subst hj; simp [Addr.add]
    | 3, hj => simp at hj; subst hj; simp [Addr.add]
  · intro u hu
    unfold encO1 at hu
    simp at hu
    rcases hu with rfl | rfl | rfl | rfl <;> rfl
  · unfold maxLen; omega
  · omega
  · simp; omega
  · intro v' w' h1 h2 _
    refine h v' w' ?_ (((Below.refl B W).alloc hB _).grown h2 (by simp; omega) (fun k hk => (World.ownsRow.lt hown k hk).1)) (fun k hk hne => (h2.block k (by simp; omega) (fun e => hne e.symm)).trans (Lib.alloc_old W _ k hk))
    unfold OwnO
    rw [encO_snoc, List.length_append]
    exact h1

/-- A row of another type stays where ranges are appended. -/
theorem keepOP {T T' B B' : Nat} {v u : Value} {t : List Rw} {ps : List Prm} {W w' : World} (ho : OwnO T B v t W) (hp : OwnP T' B' u ps W) (hT : T' ≠ T) (hk : ∀ k, k < W.heap.size → v.ownBlock ≠ some k → w'.heap[k]? = W.heap[k]?) : OwnP T' B' u ps w' := by
  refine ⟨hp.1, ?_⟩
  rcases hp.2 with hn | ⟨g, cap, cur, rfl, hb, hg, rest⟩
  · exact .inl hn
  · refine .inr ⟨g, cap, cur, rfl, hb, ?_, rest⟩
    have hlt : g < W.heap.size := by
      rcases Nat.lt_or_ge g W.heap.size with h | h
      · exact h
      · simp [Array.getElem?_eq_none h] at hg
    rw [hk g hlt ?_]
    · exact hg
    · intro e
      rcases ho.2 with ⟨rfl, _⟩ | ⟨g2, cap2, cur2, rfl, _, hg2, _⟩
      · cases e
      · have e' : g2 = g := by simpa [Value.ownBlock] using e
        subst e'
        rw [hg] at hg2
        simp at hg2
        exact hT hg2.2
theorem nilP_own {T B : Nat} {u : Value} {ps : List Prm} {w : World} (h : OwnP T B u ps w) : NilP u ps := by
  intro e
  subst e
  rcases h.2 with ⟨rfl, _⟩ | ⟨g, cap, cur, rfl, _⟩
  · exact .inl rfl
  · exact .inr ⟨_, _, rfl⟩
/-- Ranges as they lie, against ranges. -/
def LikeO (T : Nat) (ms : List Rw) (t : List Rng) (W : World) : Prop := ∀ j, j < ms.length → (nthO ms j).ty = (nthR t j).md.ty ∧ (nthO ms j).sub = (nthR t j).md.sub ∧ (nthO ms j).q = (nthR t j).q ∧ OwnP T 0 (.slice (nthO ms j).a (nthO ms j).n (nthO ms j).c) (nthR t j).md.ps W
theorem LikeO.below {T : Nat} {ms : List Rw} {t : List Rng} {W W' : World} (h : LikeO T ms t W) (b : Below W.heap.size W W') : LikeO T ms t W' := fun j hj => by
  obtain ⟨h1, h2, h3, h4⟩ := h j hj
  exact ⟨h1, h2, h3, h4.below b⟩
theorem nthO_snoc (ms : List Rw) (r : Rw) : nthO (ms ++ [r]) ms.length = r := by unfold nthO; simp [List.getD_eq_getElem?_getD]
theorem nthO_old (ms : List Rw) (r : Rw) {j : Nat} (h : j < ms.length) : nthO (ms ++ [r]) j = nthO ms j := by
  unfold nthO
  rw [List.getD_eq_getElem?_getD, List.getD_eq_getElem?_getD, List.getElem?_append_left h]
theorem RdRg.of_like {T T' B : Nat} {ms : List Rw} {t : List Rng} {v : Value} {W : World} (ho : OwnO T B v ms W) (hl : LikeO T' ms t W) (hn : ms.length = t.length) (hz : ∀ j, j < t.length → inZ (nthR t j).q) : RdRg v t W := by
  obtain ⟨a, c, rfl, h⟩ := ho.rd
  refine ⟨a, c, by rw [hn], ?_⟩
  rcases h with h | ⟨g, o, e, hc, hcell⟩
  · left
    rw [h] at hn
    exact List.length_eq_zero_iff.1 hn.symm
  · refine .inr ⟨g, o, e, by omega, fun j hj => ?_⟩
    obtain ⟨c0, c1, c2, c3⟩ := hcell j (by omega)
    obtain ⟨e0, e1, e2, e3⟩ := hl j (by omega)
    rw [e0] at c0
    rw [e1] at c1
    rw [e2] at c3
    exact ⟨⟨⟨c0, c1, _, c2, e3.rd, nilP_own e3⟩, c3⟩, hz j hj⟩

theorem LikeO.snoc {T T' B n c : Nat} {a : Option Addr} {ms : List Rw} {t : List Rng} {v7 : Value} {W w7 : World} {N1 N2 : ByteArray} {q : Int} (hl : LikeO T ms t W) (ho : OwnO T' B v7 ms W) (hT : T ≠ T') (hp : OwnP T 0 (.slice a n c) (nthR t ms.length).md.ps W) (hk : ∀ k, k < W.heap.size → v7.ownBlock ≠ some k → w7.heap[k]? = W.heap[k]?) (e1 : N1 = (nthR t ms.length).md.ty) (e2 : N2 = (nthR t ms.length).md.sub) (e3 : q = (nthR t ms.length).q) : LikeO T (ms ++ [⟨N1, N2, a, n, c, q⟩]) t w7 := by
  intro j hj
  rw [List.length_append] at hj
  rcases Nat.lt_or_ge j ms.length with h | h
  · rw [nthO_old _ _ h]
    obtain ⟨h1, h2, h3, h4⟩ := hl j h
    exact ⟨h1, h2, h3, keepOP ho h4 hT hk⟩
  · obtain rfl : j = ms.length := by simp at hj; omega
    rw [nthO_snoc]
    exact ⟨e1, e2, e3, keepOP ho hp hT hk⟩

set_option maxHeartbeats 4000000 in
theorem ranges_any (v : Value) (t : List Rng) (ht : ∀ r ∈ t, OkMd r.md) (hl : t.length ≤ 16777216) (w : World) (hv : RdRg v t w) :
    Calls Tryd.prog 6 #[v] w fun e w' => ∃ u, e = .returned u ∧ RdRg u t w' ∧ Below w.heap.size w w' := by
  have HT : Hid (RdRg v t w) := hv
  have HOk : Hid (∀ r ∈ t, OkMd r.md) := ht
  obtain ⟨va, vc, rfl, hv⟩ := hv
  have HZ : Hid (∀ j, j < t.length → inZ (nthR t j).q) := (fun j hj => by
    rcases hv with h | ⟨g, o, _, _, hcell⟩
    · rw [h] at hj; simp at hj
    · exact (hcell j hj).2 : ∀ j, j < t.length → _)
  clear ht hv
  go_enter Tryd.func6, Tryd.ntmps6
  go_wp2
  go_loopw [3, 4] (fun ov i wr => ∃ (k : Nat) (ms : List Rw), k ≤ t.length ∧ i = .int .i64 k ∧ Hid (OwnO 46 w.heap.size ov ms wr) ∧ Hid (ms.length = k) ∧ Hid (LikeO 61 ms t wr) ∧ Hid (Below w.heap.size w wr)) (fun _ i _ => t.length - (intOf i).toNat)
  case atStart => exact ⟨0, [], Nat.zero_le _, rfl, ownO_empty _ w (Nat.le_refl _), (rfl : _ = _), (fun j hj => by simp at hj : LikeO _ _ _ _), (Below.refl _ w).alloc (Nat.le_refl _) _⟩
  case round =>
    obtain ⟨k, ms, hk, rfl, hown, hmk, hlike, hbl⟩ := hrel
    by_cases hlt : k < t.length
    · obtain ⟨a', c', e', hcs⟩ := HT.out.below hbl.out
      injection e' with e1 _ e2
      subst e1 e2
      rcases hcs with h | ⟨g, o, rfl, hlc, hcell⟩
      · rw [h] at hlt; simp at hlt
      obtain ⟨⟨⟨p0, p1, u', p2, hrp, _⟩, p3⟩, hq⟩ := hcell k hlt
      have hok := OkRg.at HOk.out hlt
      have HD : Hid (∀ W, Below wr.heap.size wr W → Calls Tryd.prog 10 #[.agg #[.string (nthR t k).md.ty, .string (nthR t k).md.sub, u']] W fun e w' => ∃ a n c, e = .returned (.agg #[.string (nthR t k).md.ty, .string (nthR t k).md.sub, .slice a n c]) ∧ OwnP 61 0 (.slice a n c) (nthR t k).md.ps w' ∧ Below (World.heap W).size W w') := fun W b => (media_any _ _ u' _ hok.2.2.2 W (hrp.below b)).mono fun e w' ⟨x, he, ho, hb⟩ => by
        have ho' := ho
        obtain ⟨a, c, rfl, hh⟩ := OwnP.rd ho'
        exact ⟨a, _, c, he, OwnP.mono ho (Nat.zero_le _), hb⟩
      obtain ⟨ra, rc, rfl, _⟩ := hrp
      have E1 : Hid ((nthR t k).md.ty = (nthR t ms.length).md.ty ∧ (nthR t k).md.sub = (nthR t ms.length).md.sub ∧ (nthR t k).q = (nthR t ms.length).q ∧ (nthR t k).md.ps = (nthR t ms.length).md.ps) := (by rw [hmk.out]; exact ⟨rfl, rfl, rfl, rfl⟩ : _ ∧ _)
      have hml : Hid (ms.length + 1 ≤ 2147483648) := (by rw [hmk.out]; omega : ms.length + 1 ≤ 2147483648)
      have hki : (k : Int) < (t.length : Int) := by omega
      clear hcell hok hq
      generalize (nthR t k).md.ty = N1 at *
      generalize (nthR t k).md.sub = N2 at *
      generalize (nthR t k).md.ps = ps at *
      generalize (nthR t k).q = q at *
      go_wp2_with fail
      go_region_law (first
        | (go_simp; go_at_call 10; refine (HD.out _ (by first | exact Below.refl _ _ | exact (Below.refl _ _).drew)).mono ?_; rintro e w5 ⟨xa, xn, xc, rfl, hp5, hb5⟩; dsimp only; have q0 : w5.cell? ⟨g, o + k * 4, none⟩ = some (.string N1) := (hb5.cell (p := ⟨g, o + k * 4, none⟩) (World.block_lt_of_cell? wr _ p0)).trans p0; have q3 : w5.cell? ⟨g, o + k * 4 + 3, none⟩ = some (.int .i64 q) := (hb5.cell (p := ⟨g, o + k * 4 + 3, none⟩) (World.block_lt_of_cell? wr _ p3)).trans p3)
        | (refine step_appO 46 26 infoO2 Tryd.underlying26 rfl (.tmp 12) (.tmp 25) rfl w.heap.size _ ms _ ⟨N1, N2, xa, xn, xc, q⟩ (by simp [Act.eval, Act.put]) (hown.out.below (bel_trans (Below.refl _ _).drew hb5)) _ (by simp [Act.eval, Act.put]) rfl hml.out (Nat.le_trans hbl.out.size (bel_trans (Below.refl _ _).drew hb5).size) ?_; intro v7 w7 hown7 hb7 hkeep))
      all_goals
        have HB5 : Hid (Below wr.heap.size wr w5) := (by first | exact bel_trans (Below.refl _ _).drew hb5 | exact hb5 : Below _ _ _)
        have HO7 : Hid (OwnO 46 w.heap.size v7 (ms ++ [⟨N1, N2, xa, xn, xc, q⟩]) w7) := hown7
        have HK7 : Hid (LikeO 61 (ms ++ [⟨N1, N2, xa, xn, xc, q⟩]) t w7) := LikeO.snoc (hlike.out.below HB5.out) (hown.out.below HB5.out) (by decide) (by rw [← E1.out.2.2.2]; exact hp5) hkeep E1.out.1 E1.out.2.1 E1.out.2.2.1
        have HB7 : Hid (Below w.heap.size w w7) := (bel_trans hbl.out HB5.out).trans hb7
        clear hown7 hb7 hkeep hb5 hp5
        go_wp2
        go_roundw
        case rel => exact ⟨k + 1, _, by omega, by go_num, HO7, (by rw [List.length_append, hmk.out]; rfl : _ = _), HK7, HB7⟩
        case measure => simp [intOf]; omega
    · obtain rfl : k = t.length := by omega
      go_wp2
      go_ret
      exact ⟨_, rfl, RdRg.of_like hown.out hlike.out hmk.out HZ.out, hbl.out⟩

end Ac
end Go.Proofs.YtejagkpjdfambaaDoor
