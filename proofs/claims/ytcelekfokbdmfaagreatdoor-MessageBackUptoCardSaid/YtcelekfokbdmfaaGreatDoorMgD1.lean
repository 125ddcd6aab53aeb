import Derived.Test.YtcelekfokbdmfaaGreatDoorMgC1
import Derived.Test.YtcelekfokbdmfaaGreatDoorMgW
import Derived.Deep.RegionHeld3
set_option linter.unusedVariables false
set_option linter.unusedSimpArgs false
set_option maxRecDepth 100000
namespace Go.Proofs.YtcelekfokbdmfaaGreatDoor
open Go.RowKit Go.Shelf
namespace Ck
open Oc Tg _root_.Go.Proofs.YtcelekfokbdmfaaGreatDoor.Fd
def SB (x W : World) : Prop := Below x.heap.size x W
theorem SB.refl (x : World) : SB x x := Below.refl _ _
theorem SB.drew {x W : World} (h : SB x W) : SB x W.drew := Below.drew h
theorem SB.alloc {x W : World} (h : SB x W) (o : Obj) : SB x (W.alloc o) := Below.alloc h h.size _
theorem SB.on {x W W' : World} (h : SB x W) (b : Below W.heap.size W W') : SB x W' := bel_trans h b
theorem OwnI.zero {B : Nat} {v : Value} {l : List Int} {w : World} (h : OwnI B v l w) : OwnI 0 v l w := by
  refine ⟨h.1, ?_⟩
  rcases h.2 with h | ⟨g, cap, cur, e, _, rest⟩
  · exact .inl h
  · exact .inr ⟨g, cap, cur, e, Nat.zero_le _, rest⟩
theorem cutC_len : ∀ (l : List Int) (t : List UInt8), t.length ≤ 1099511627776 → (cutC l t).length ≤ t.length + 15 * (l.length + 1)
  | [], t, h => by
    have := chunkC_len t h
    show (chunkC t).length ≤ _
    simp only [List.length_nil]
    omega
  | n :: l, t, h => by
    have h2 : (t.drop n.toNat).length = t.length - n.toNat := List.length_drop
    have h3 : (t.take n.toNat).length = min n.toNat t.length := List.length_take
    have e1 := chunkC_len (t.take n.toNat) (by omega)
    have e2 := cutC_len l (t.drop n.toNat) (by omega)
    show (chunkC (t.take n.toNat) ++ cutC l (t.drop n.toNat)).length ≤ _
    rw [List.length_append]
    simp only [List.length_cons]
    omega
end Ck
end Go.Proofs.YtcelekfokbdmfaaGreatDoor
set_option linter.unusedVariables false
set_option linter.unusedSimpArgs false
set_option maxRecDepth 100000
namespace Go.Proofs.YtcelekfokbdmfaaGreatDoor
open Go.RowKit Go.Shelf
namespace Ms
open Oc Tg _root_.Go.Proofs.YtcelekfokbdmfaaGreatDoor.Fd _root_.Go.Proofs.YtcelekfokbdmfaaGreatDoor.Ck
theorem step_fresh {ops : Array Oper} {o : Oper} {a : Act} {K : Act → World → Prop} {Q : Exit → Act → World → Prop} {E' : Prop} (T S : Nat) (z : Value) (size bytes : Nat)
    (hinfo : (Tryz.prog.info? T).map (fun i => (i.zero, i.size, i.bytes)) = some (some z, size, bytes)) (hzs : z.cells.size = size)
    (hund : Tryz.prog.underlying S = some (.slice T)) (hgd : o.guard = none) (s x : Operand)
    (ho : o.op = .call { callee := .builtin .append, args := #[s, x], argTypes := #[S, S] }) (B g : Nat) (y : Value) (m : Nat) (news : List Value) (W : World)
    (hs : a.eval s = .slice (some ⟨g, 0, none⟩) 0 0) (hB : B ≤ g) (hgw : W.heap[g]? = some (.cells #[] T (0, 0))) (hx : a.eval x = y) (hl : news.length = m * size)
    (hy : (y = .slice none 0 0 ∧ m = 0) ∨ ∃ ad c, y = .slice (some ad) m c ∧ ∀ j u, news[j]? = some u → W.cell? (ad.add j) = some u)
    (hlen : m ≤ 2147483648) (hb2 : m * bytes ≤ 140737488355328)
    (h : ∀ v' w', Hid (w'.ownsRow B T size v' m news) → Hid (Below W.heap.size W w') → K (a.put o.dst v') w') :
    if Region.wanted o (yielded ops a.tmps) = true then Oper.wp Tryz.prog o a W K Q else E' := by
  rw [if_pos (by simp [Region.wanted, hgd])]
  obtain ⟨i0, hi, hz0, hz1, hz2⟩ := info_parts hinfo
  have hgl : g < W.heap.size := by
    rcases Nat.lt_or_ge g W.heap.size with h | h
    · exact h
    · rw [Array.getElem?_eq_none h] at hgw
      cases hgw
  have hown : W.ownsRow B T size (.slice (some ⟨g, 0, none⟩) 0 0) 0 [] := ⟨by simp, .inr ⟨g, 0, #[], rfl, hB, hgw, Nat.le_refl _, by decide, by simp, by simp⟩⟩
  rcases hy with ⟨e, hm0⟩ | ⟨ad, c, e, hnews⟩
  · subst hm0
    have hn : news = [] := List.eq_nil_of_length_eq_zero (by simpa using hl)
    subst hn
    have hrun := run_append_owned_none (P := Tryz.prog) (w := W) B S o.type T i0 size hund hi _ 0 _ hown
    have hx' : a.eval x = .slice none 0 0 := hx.trans e
    unfold Oper.wp
    simp [execOp, ho, resolve, invoke, builtin, hs, hx', hrun, Result.andThen]
    exact h _ W hown (Below.refl _ _)
  · by_cases hm0 : m = 0
    · subst hm0
      have hn : news = [] := List.eq_nil_of_length_eq_zero (by simpa using hl)
      subst hn
      have hrun := run_append_room (P := Tryz.prog) W S o.type T i0 hund hi g 0 0 #[] hgw ad 0 c [] (by simp) (by simp) (by simp) (by simp) (by simp)
      have hx' : a.eval x = .slice (some ad) 0 c := hx.trans e
      unfold Oper.wp
      simp [execOp, ho, resolve, invoke, builtin, hs, hx', Result.andThen] at hrun ⊢
      rw [hrun]
      have hsame : ∀ k : Nat, (W.setRow g (#[] : Array Value)).heap[k]? = W.heap[k]? := fun k => by
        by_cases e : k = g
        · subst e
          rw [setRow_heap W k #[] _ T (0, 0) hgw, hgw]
        · exact setRow_other W g k _ e
      refine h _ _ ?_ ?_
      · refine ⟨by simp, .inr ⟨g, 0, #[], rfl, hB, ?_, Nat.le_refl _, by decide, by simp, by simp⟩⟩
        exact (hsame g).trans hgw
      · exact ⟨rfl, rfl, rfl, by simp [World.setRow], fun k hk => hsame k⟩
    · have hrun := run_append_grow (P := Tryz.prog) W S o.type T i0 _ hund hi hz0 ⟨g, 0, none⟩ 0 0 [] (by simp) (by simp) ad m c news (by rw [hz1]; exact hl) hnews (by omega) (by omega) (growslice_fits (by omega) (by rw [hz2]; simpa using hb2))
      simp only [Nat.zero_add] at hrun
      have hx' : a.eval x = .slice (some ad) m c := hx.trans e
      unfold Oper.wp
      simp only [execOp, ho, resolve, invoke, builtin, Sem.run_bind, Sem.run_pure, Result.andThen_ok, List.map_toArray, List.map_cons, List.map_nil, hs, hx', hrun]
      have hge := grownCap_ge W m 0 T
      have hcm : grownCap W m 0 T ≤ maxLen := grownCap_le_maxLen W m 0 T (by unfold maxLen; omega)
      refine h _ _ ?_ ?_
      · refine ⟨hl, .inr ⟨W.heap.size, _, _, rfl, by omega, heap_alloc_new W.drew _, hge, hcm, ?_, ?_⟩⟩
        · simp only [Array.size_append, List.size_toArray, size_zeroCells, hzs, hl, List.length_nil, Nat.zero_add, ← Nat.add_mul]
          congr 1
          omega
        · rw [← hl]
          simp
      · exact (below_drewN (Below.refl _ W) 1).alloc (Nat.le_refl _) _
theorem inF_cells {y : Value} {u : List Fl} {W : World} (hy : InF y u W) : (y = .slice none 0 0 ∧ u.length = 0) ∨ ∃ ad c, y = .slice (some ad) u.length c ∧ ∀ j z, (encF u)[j]? = some z → W.cell? (ad.add j) = some z := by
  obtain ⟨⟨a2, c2, rfl, hr⟩, hnil⟩ := hy
  by_cases hu : u = []
  · subst hu
    rcases hnil rfl with e | ⟨g, c, e⟩
    · exact .inl ⟨e, rfl⟩
    · exact .inr ⟨g, c, e, fun j z hj => by simp [encF] at hj⟩
  · rcases hr with hr | ⟨g, o', rfl, hc, hcell⟩
    · exact absurd hr hu
    · refine .inr ⟨⟨g, o', none⟩, c2, rfl, fun j z hj => ?_⟩
      rw [addr_add]
      obtain ⟨hq, e⟩ := encF_get u j z hj
      obtain ⟨h0, h1⟩ := hcell (j / 2) hq
      rw [e]
      by_cases hm : j % 2 = 0
      · rw [if_pos hm]
        rw [show o' + j / 2 * 2 = o' + j by omega] at h0
        exact h0
      · rw [if_neg hm]
        rw [show o' + j / 2 * 2 + 1 = o' + j by omega] at h1
        exact h1
theorem step_freshF {ops : Array Oper} {o : Oper} {a : Act} {K : Act → World → Prop} {Q : Exit → Act → World → Prop} {E' : Prop} (T S : Nat)
    (hinfo : (Tryz.prog.info? T).map (fun i => (i.zero, i.size, i.bytes)) = some (some (.agg #[.string ⟨#[]⟩, .string ⟨#[]⟩]), 2, 32))
    (hund : Tryz.prog.underlying S = some (.slice T)) (hgd : o.guard = none) (s x : Operand)
    (ho : o.op = .call { callee := .builtin .append, args := #[s, x], argTypes := #[S, S] }) (B g : Nat) (y : Value) (u : List Fl) (W : World)
    (hs : a.eval s = .slice (some ⟨g, 0, none⟩) 0 0) (hB : B ≤ g) (hgw : W.heap[g]? = some (.cells #[] T (0, 0))) (hx : a.eval x = y) (hy : InF y u W) (hlen : u.length ≤ 2147483648)
    (h : ∀ v' w', Hid (OwnF T B v' u w') → Hid (Below W.heap.size W w') → K (a.put o.dst v') w') :
    if Region.wanted o (yielded ops a.tmps) = true then Oper.wp Tryz.prog o a W K Q else E' :=
  step_fresh T S _ 2 32 hinfo rfl hund hgd s x ho B g y u.length (encF u) W hs hB hgw hx (encF_len u) (inF_cells hy) hlen (by omega) h
theorem step_appX {ops : Array Oper} {o : Oper} {a : Act} {K : Act → World → Prop} {Q : Exit → Act → World → Prop} {E' : Prop} (T S : Nat)
    (hinfo : (Tryz.prog.info? T).map (fun i => (i.zero, i.size, i.bytes)) = some (some (.agg #[.string ⟨#[]⟩, .string ⟨#[]⟩]), 2, 32))
    (hund : Tryz.prog.underlying S = some (.slice T)) (hgd : o.guard = none) (s x : Operand)
    (ho : o.op = .call { callee := .builtin .append, args := #[s, x], argTypes := #[S, S] }) (B : Nat) (v y : Value) (t u : List Fl) (W : World)
    (hs : a.eval s = v) (hown : OwnF T B v t W) (hx : a.eval x = y) (hy : InF y u W) (hlen : t.length + u.length ≤ 2147483648) (hB : B ≤ W.heap.size)
    (h : ∀ v' w', Hid (OwnF T B v' (t ++ u) w') → Hid (Below B W w') → K (a.put o.dst v') w') :
    if Region.wanted o (yielded ops a.tmps) = true then Oper.wp Tryz.prog o a W K Q else E' := by
  rw [if_pos (by simp [Region.wanted, hgd])]
  obtain ⟨i0, hi, hz0, hz1, hz2⟩ := info_parts hinfo
  rcases inF_cells hy with ⟨e, hu⟩ | ⟨ad, c, e, hcell⟩
  · have hu' := List.eq_nil_of_length_eq_zero hu
    subst hu'
    have hrun := run_append_owned_none (P := Tryz.prog) (w := W) B S o.type T i0 2 hund hi v t.length _ hown
    have hx' : a.eval x = .slice none 0 0 := hx.trans e
    unfold Oper.wp
    simp [execOp, ho, resolve, invoke, builtin, hs, hx', hrun, Result.andThen]
    exact h v W (by rw [List.append_nil]; exact hown) (Below.refl _ _)
  · refine wp_append_own W s x S ho B T i0 (.agg #[.string ⟨#[]⟩, .string ⟨#[]⟩]) 2 32 hund hi hz0 hz1 hz2 rfl (by decide) v t.length _ hs hown ad u.length c (encF u) (hx.trans e) (encF_len u) hcell ?_ ?_ ?_ hB ?_
    · intro z hz
      obtain ⟨j, hj⟩ := List.getElem?_of_mem hz
      obtain ⟨_, e⟩ := encF_get u j z hj
      rw [e]
      split <;> rfl
    · unfold maxLen; omega
    · omega
    · intro v' w' h1 h2 _
      refine h v' w' ?_ ((Below.refl B W).grown h2 hB (fun k hk => (World.ownsRow.lt hown k hk).1))
      show OwnF _ _ _ _ _
      unfold OwnF
      rw [List.length_append, show encF (t ++ u) = encF t ++ encF u by unfold encF; rw [List.flatMap_append]]
      exact h1
theorem at_world {ops : Array Oper} {o : Oper} {a : Act} {K : Act → World → Prop} {Q : Exit → Act → World → Prop} {E' : Prop} (W : World)
    (h : if Region.wanted o (yielded ops a.tmps) = true then Oper.wp Tryz.prog o a W K Q else E') : if Region.wanted o (yielded ops a.tmps) = true then Oper.wp Tryz.prog o a W K Q else E' := h
theorem Below.kept1 {B : Nat} {w w' : World} (h : Below B w w') {k : Nat} {o : Obj} (hk : k < B) (e : w.heap[k]? = some o) : w'.heap[k]? = some o := (h.block k hk).trans e
end Ms
end Go.Proofs.YtcelekfokbdmfaaGreatDoor
set_option linter.unusedVariables false
set_option linter.unusedSimpArgs false
set_option maxRecDepth 100000
namespace Go.Proofs.YtcelekfokbdmfaaGreatDoor
open Go.RowKit Go.Shelf
namespace Ms
open Oc Tg _root_.Go.Proofs.YtcelekfokbdmfaaGreatDoor.Fd _root_.Go.Proofs.YtcelekfokbdmfaaGreatDoor.Ck
structure At12 (n : Int) (f i : Nat) (a : List Int) (c : Int) (b : List Int) : Prop where
  codes : codes = a ++ c :: b
  off : f = (flat a).length
  in' : f ≤ i ∧ i ≤ f + (ent c).length
  none : ∀ k ∈ a, n ≠ k
theorem At12.tab {n : Int} {f i : Nat} {a : List Int} {c : Int} {b : List Int} (h : At12 n f i a c b) : rTab = flat a ++ (ent c ++ (124 :: flat b)) := by
  unfold rTab
  rw [h.codes, flat_app]
  show flat a ++ ((ent c ++ [124]) ++ flat b) = _
  simp
theorem At12.mem {n : Int} {f i : Nat} {a : List Int} {c : Int} {b : List Int} (h : At12 n f i a c b) : c ∈ Ms.codes := by rw [h.codes]; simp
theorem At12.lt {n : Int} {f i : Nat} {a : List Int} {c : Int} {b : List Int} (h : At12 n f i a c b) : f + (ent c).length < 787 := by
  have := congrArg List.length h.tab
  rw [tab_len] at this
  simp only [List.length_append, List.length_cons] at this
  have := h.off
  omega
theorem At12.byte {n : Int} {f i : Nat} {a : List Int} {c : Int} {b : List Int} (h : At12 n f i a c b) : (i < f + (ent c).length → rTab.getD i 0 ≠ 124) ∧ (i = f + (ent c).length → rTab.getD i 0 = 124) := by
  have ho := h.off
  obtain ⟨h1, h2⟩ := h.in'
  rw [h.tab]
  constructor
  · intro hi
    rw [List.getD_eq_getElem?_getD, List.getElem?_append_right (by omega), ← ho, List.getElem?_append_left (by omega)]
    have hlt : i - f < (ent c).length := by omega
    rw [List.getElem?_eq_getElem hlt]
    exact ent_bar c h.mem _ (List.getElem_mem hlt)
  · intro hi
    rw [List.getD_eq_getElem?_getD, List.getElem?_append_right (by omega), ← ho, List.getElem?_append_right (by omega), show i - f - (ent c).length = 0 by omega]
    rfl
theorem At12.cut {n : Int} {f i : Nat} {a : List Int} {c : Int} {b : List Int} (h : At12 n f i a c b) (hi : i = f + (ent c).length) : (rTab.drop f).take 3 = (ent c).take 3 ∧ (rTab.drop (f + 4)).take (i - (f + 4)) = rsL c ∧ f + 4 ≤ i := by
  have ho := h.off
  have el : (ent c).length = 4 + (rsL c).length := by unfold ent; simp; omega
  have hd : rTab.drop f = ent c ++ (124 :: flat b) := by
    rw [h.tab, ho, List.drop_left']
    rfl
  refine ⟨?_, ?_, by omega⟩
  · rw [hd, List.take_append_of_le_length (by omega)]
  · rw [← List.drop_drop, hd, List.drop_append_of_le_length (by omega), show i - (f + 4) = (rsL c).length by omega]
    have : (ent c).drop 4 = rsL c := rfl
    rw [this, List.take_left']
    rfl
theorem At12.next {n : Int} {f i : Nat} {a : List Int} {c c' : Int} {b : List Int} (h : At12 n f i a c (c' :: b)) (hi : i = f + (ent c).length) (hn : n ≠ c) : At12 n (i + 1) (i + 1) (a ++ [c]) c' b := by
  refine ⟨by rw [h.codes]; simp, ?_, ⟨Nat.le_refl _, by omega⟩, ?_⟩
  · rw [flat_app, List.length_append, ← h.off]
    show _ = f + ((ent c ++ [124]) ++ []).length
    simp
    omega
  · intro k hk
    simp at hk
    rcases hk with hk | rfl
    · exact h.none k hk
    · exact hn
theorem At12.last {n : Int} {f i : Nat} {a : List Int} {c : Int} (h : At12 n f i a c []) (hi : i = f + (ent c).length) (hn : n ≠ c) : i + 1 = 787 ∧ ∀ k ∈ Ms.codes, n ≠ k := by
  constructor
  · have := congrArg List.length h.tab
    rw [tab_len] at this
    simp only [List.length_append, List.length_cons] at this
    have h2 := h.off
    have h3 : (flat []).length = 0 := rfl
    omega
  · rw [h.codes]
    intro k hk
    simp at hk
    rcases hk with hk | rfl
    · exact h.none k hk
    · exact hn
theorem At12.first (n : Int) : At12 n 0 0 [] 100 Ms.codes.tail := ⟨rfl, rfl, ⟨Nat.le_refl _, Nat.zero_le _⟩, fun k hk => by cases hk⟩
def Lp12 (n : Int) (f i : Nat) : Prop := (∃ a c b, At12 n f i a c b) ∨ (i = 787 ∧ ∀ k ∈ codes, n ≠ k)
set_option maxHeartbeats 4000000 in
theorem rReason_any (n : Int) (hn : i64 n) (w : World) :
    Calls Tryz.prog 41 #[.int .i64 n] w fun e w' => e = .returned (.string (str (rsL n))) ∧ Below w.heap.size w w' := by
  obtain ⟨K, hK⟩ : ∃ K : ByteArray, K = str rTab := ⟨_, rfl⟩
  have hKz : K.size = 787 := by rw [hK, str_size, tab_len]
  have hKl : K.data.toList = rTab := by rw [hK, str_list]
  have HDg : Hid (∀ W, Calls Tryz.prog 42 #[.int .i64 n] W fun e w' => e = .returned (.string (str (dgR n))) ∧ Below (World.heap W).size W w') := fun W => rDigits12_any n hn W
  have HKl : Hid (K.data.toList = rTab) := hKl
  have key : ∀ x y : List UInt8, List.append x y = rTab → (⟨(List.append x y).toArray⟩ : ByteArray) = K := fun x y h => by rw [h, hK]; rfl
  have key2 : ∀ x y : List UInt8, x ++ y = rTab → (⟨(x ++ y).toArray⟩ : ByteArray) = K := fun x y h => by rw [h, hK]; rfl
  have HKey : Hid (∀ x y : List UInt8, List.append x y = rTab → (⟨(List.append x y).toArray⟩ : ByteArray) = K) := key
  have HKey2 : Hid (∀ x y : List UInt8, x ++ y = rTab → (⟨(x ++ y).toArray⟩ : ByteArray) = K) := key2
  clear hKl hK key key2
  go_enter Tryz.func41, Tryz.ntmps41
  go_wp2
  first | rw [HKey.out] | rw [HKey2.out] | (go_show; fail "no")
  rotate_left
  · kernel_rfl
  go_loopw [4, 5] (fun fv iv wr => ∃ f i : Nat, fv = .int .i64 (f : Int) ∧ iv = .int .i64 (i : Int) ∧ i ≤ 787 ∧ Hid (Lp12 n f i) ∧ Hid (Below w.heap.size w wr)) (fun _ iv _ => 787 - (intOf iv).toNat)
  case atStart => exact ⟨0, 0, rfl, rfl, by omega, .inl ⟨_, _, _, At12.first n⟩, Below.refl _ _⟩
  case round =>
    obtain ⟨f, i, rfl, rfl, hi, hlp, hb⟩ := hrel
    clear HKey HKey2
    rcases hlp.out with ⟨a, c, b, hA⟩ | ⟨h787, hno⟩
    case inr =>
      have HQ : Hid (rsL n = []) := rsL_none hno
      subst h787
      clear hno hlp
      go_wp2
      go_ret
      exact ⟨by rw [HQ.out]; rfl, hb.out⟩
    have hlt := hA.lt
    have hin := hA.in'
    have hiz : i < K.size := by omega
    have hil : (i : Int) < (787 : Int) := by omega
    have hbyte : (((K[i]'hiz).toNat : Nat) : Int) = ((rTab.getD i 0).toNat : Int) := by
      rw [byt_at K i hiz]
      unfold byt
      rw [HKl.out]
    obtain ⟨hb1, hb2⟩ := hA.byte
    have HA : Hid (At12 n f i a c b) := hA
    clear hlp
    by_cases hend : i < f + (ent c).length
    · have hne := hb1 hend
      have hx : (((rTab.getD i 0).toNat : Int) != 124) = true := by
        simp only [bne_iff_ne, ne_eq]
        intro e
        exact hne (UInt8.toNat_inj.1 (by show (rTab.getD i 0).toNat = 124; omega))
      have HN : Hid (Lp12 n f (i + 1)) := .inl ⟨a, c, b, hA.codes, hA.off, ⟨by omega, by omega⟩, hA.none⟩
      clear hb1 hb2 hne hA hend hlt hin
      generalize ((rTab.getD i 0).toNat : Int) = x at *
      go_wp2
      go_roundw
      case rel => exact ⟨f, i + 1, rfl, by go_num, by omega, HN, hb⟩
      case measure => simp [intOf]; omega
    · have hie : i = f + (ent c).length := by omega
      have hx : (rTab.getD i 0).toNat = 124 := by rw [hb2 hie]; rfl
      rw [hx] at hbyte
      obtain ⟨k1, k2, k3⟩ := hA.cut hie
      have e1 : K.extract f (f + 3) = str ((ent c).take 3) := by
        apply eq_list
        rw [str_list, Lib.extract_data, HKl.out, show f + 3 - f = 3 by omega]
        exact k1
      have e2 : K.extract (f + 4) i = str (rsL c) := by
        apply eq_list
        rw [str_list, Lib.extract_data, HKl.out]
        exact k2
      have hcd := code_is (n := n) hA.mem
      have HNx : Hid (n ≠ c → Lp12 n (i + 1) (i + 1) ∧ i + 1 ≤ 787) := fun hnc => by
        cases hbq : b with
        | nil =>
          rw [hbq] at hA
          obtain ⟨q1, q2⟩ := hA.last hie hnc
          exact ⟨.inr ⟨q1, q2⟩, by omega⟩
        | cons c' b' =>
          rw [hbq] at hA
          exact ⟨.inl ⟨_, _, _, hA.next hie hnc⟩, by omega⟩
      have hf3 : f + 3 ≤ K.size := by omega
      have j1 : (f : Int) + 3 ≤ 787 := by omega
      have j2 : (0 : Int) ≤ (f : Int) + 3 := by omega
      have j3 : ((f : Int) + 3).toNat = f + 3 := by omega
      have j4 : (f : Int) + 4 ≤ (i : Int) := by omega
      have j5 : ((f : Int) + 4).toNat = f + 4 := by omega
      have j6 : (f : Int) ≤ (f : Int) + 3 := by omega
      have j7 : IntKind.i64.wrap ((f : Int) + 3) = (f : Int) + 3 := by rw [IntKind.wrap_i64]; omega
      have HB : Hid (Below w.heap.size w wr.drew) := hb.out.drew
      clear hb1 hb2 hA k1 k2 hx hie hend hin hlt
      have hts : ((str ((ent c).take 3)).toList == (str (dgR n)).toList) = decide (n = c) := by
        rw [ByteArray.toList_eq, ByteArray.toList_eq, str_list, str_list, Bool.eq_iff_iff, beq_iff_eq, decide_eq_true_iff]
        exact hcd
      have HRc : Hid (n = c → str (rsL c) = str (rsL n)) := fun h => by rw [h]
      clear hcd
      generalize str ((ent c).take 3) = X at *
      generalize str (dgR n) = Y at *
      generalize str (rsL c) = Z at *
      generalize hdq : decide (n = c) = d at *
      have HD : Hid (decide (n = c) = d) := hdq
      clear hdq
      go_wp2_with fail
      go_region_law (go_simp; go_at_call 42; refine (HDg.out _).mono ?_; rintro e w2 ⟨rfl, hb2⟩; have HB : Hid (Below w.heap.size w w2) := bel_trans HB.out hb2; clear hb2; dsimp only)
      all_goals
        cases d with
        | true =>
          have hnc : n = c := of_decide_eq_true HD.out
          have HQ : Hid (Z = str (rsL n)) := HRc.out hnc
          clear hnc
          go_wp2
          go_ret
          exact ⟨by rw [← HQ.out]; rfl, HB.out⟩
        | false =>
          have hnc : n ≠ c := of_decide_eq_false HD.out
          obtain ⟨q1, q2⟩ := HNx.out hnc
          have HQ : Hid (Lp12 n (i + 1) (i + 1)) := q1
          clear hnc q1
          go_wp2
          go_roundw
          case rel => exact ⟨i + 1, i + 1, by go_num, by go_num, q2, HQ, HB⟩
          case measure => simp [intOf]; omega
end Ms
end Go.Proofs.YtcelekfokbdmfaaGreatDoor
