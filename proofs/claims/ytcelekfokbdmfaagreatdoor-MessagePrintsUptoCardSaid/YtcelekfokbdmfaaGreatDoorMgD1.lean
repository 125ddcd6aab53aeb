/- Several texts as one. -/
import Derived.Test.YtcelekfokbdmfaaGreatDoorMgV
import Derived.Test.YtcelekfokbdmfaaGreatDoorMgC1
/-
  The law's plain and same.
-/
set_option linter.unusedVariables false
set_option linter.unusedSimpArgs false
set_option maxRecDepth 100000
namespace Go.Proofs.YtcelekfokbdmfaaGreatDoor
open Go.RowKit Go.Shelf
namespace Ck
open Oc Tg _root_.Go.Proofs.YtcelekfokbdmfaaGreatDoor.Fd

end Ck
end Go.Proofs.YtcelekfokbdmfaaGreatDoor

/-
  Of the laws: sized, right.
-/
set_option linter.unusedVariables false
set_option linter.unusedSimpArgs false
set_option maxRecDepth 100000
namespace Go.Proofs.YtcelekfokbdmfaaGreatDoor
open Go.RowKit Go.Shelf
namespace Ck
open Oc Tg _root_.Go.Proofs.YtcelekfokbdmfaaGreatDoor.Fd

def encI (l : List Int) : List Value := l.map fun x => Value.int .i64 x
/-- A slice of numbers of the call's own. -/
def OwnI (B : Nat) (v : Value) (l : List Int) (w : World) : Prop := w.ownsRow B 3 1 v l.length (encI l)
theorem ownI_nil (B : Nat) (w : World) : OwnI B (.slice none 0 0) [] w := World.ownsRow_nil w B 3 1
theorem infoI : (Tryz.prog.info? 3).map (fun i => (i.zero, i.size, i.bytes)) = some (some (.int .i64 0), 1, 8) := by kernel_rfl
theorem wp_appI {ops : Array Oper} {rest : List Oper} {o : Oper} {a : Act} {Q : Exit → Act → World → Prop} (hgd : o.guard = none) (s x : Operand)
    (ho : o.op = .call { callee := .builtin .append, args := #[s, x], argTypes := #[25, 25] }) (B : Nat) (v : Value) (l : List Int) (W : World) (y : Int)
    (hs : a.eval s = v) (hown : OwnI B v l W) (g : Nat) (hx : a.eval x = .slice (some ⟨g, 0, none⟩) 1 1) (hg : g = W.heap.size) (hlen : l.length + 1 ≤ 2147483648) (hB : B ≤ W.heap.size)
    (h : ∀ v' w', OwnI B v' (l ++ [y]) w' → Below B W w' → wpList Tryz.prog ops Q rest (a.put o.dst v') w') : wpList Tryz.prog ops Q (o :: rest) a (W.alloc (.cells #[.int .i64 y] 3)) := by
  subst hg
  obtain ⟨i0, hi, hz0, hz1, hz2⟩ := info_parts infoI
  refine wpList_append_own _ hgd s x 25 ho B 3 i0 (.int .i64 0) 1 8 Tryz.underlying25 hi hz0 hz1 hz2 rfl (by decide) v l.length _ hs (World.ownsRow.alloc hown _) ⟨W.heap.size, 0, none⟩ 1 1 [.int .i64 y] hx rfl ?_ ?_ ?_ ?_ ?_ ?_
  · intro j u hj
    match j, hj with
    | 0, hj => simp at hj; subst hj; simp [Addr.add]
  · intro u hu
    simp at hu
    subst hu
    rfl
  · unfold maxLen; omega
  · omega
  · simp; omega
  · intro v' w' h1 h2 _
    refine h v' w' ?_ (((Below.refl B W).alloc hB _).grown h2 (by simp; omega) (fun k hk => (World.ownsRow.lt hown k hk).1))
    unfold OwnI encI
    rw [List.map_append, List.length_append]
    exact h1
theorem OwnI.rd {B : Nat} {v : Value} {l : List Int} {w : World} (h : OwnI B v l w) (hl : ∀ x ∈ l, -9223372036854775808 ≤ x ∧ x ≤ 9223372036854775807) : RdI w v l := by
  have hall := h
  rcases h.2 with ⟨hn, h0⟩ | ⟨g, cap, cur, rfl, hb, hg, hc, _⟩
  · have : l = [] := by
      have h1 := h0
      unfold encI at h1
      simpa using h1
    subst this
    exact ⟨none, 0, hn, by simp, hl, .inl rfl⟩
  · refine ⟨some ⟨g, 0, none⟩, cap, rfl, by omega, hl, .inr ⟨g, 0, rfl, fun j x hj => ?_⟩⟩
    have := World.ownsRow.cells hall (g := g) rfl j (.int .i64 x) (by unfold encI; rw [List.getElem?_map, hj]; rfl)
    rw [Nat.zero_add]
    have ea : Addr.add ⟨g, 0, none⟩ j = ⟨g, j, none⟩ := by unfold Addr.add; split <;> simp_all
    rw [ea] at this
    exact this
theorem OwnI.below {B : Nat} {v : Value} {l : List Int} {w w' : World} (h : OwnI B v l w) (b : Below w.heap.size w w') : OwnI B v l w' := (But.of_below b).owns h (fun _ _ e => by cases e)

set_option maxHeartbeats 2000000 in
theorem rRight_any (p : Fl) (h1 : p.1.length ≤ maxLen) (h2 : p.2.length ≤ maxLen) (w : World) :
    Calls Tryz.prog 76 #[.agg #[.string (str p.1), .string (str p.2)]] w fun e w' => e = .returned (.bool (okT p)) ∧ Below w.heap.size w w' := by
  obtain ⟨pn, pv⟩ := p
  dsimp only at h1 h2 ⊢
  have HOk : Hid (okT (pn, pv) = (trails pn && isValue pv)) := (by
    unfold okT trails
    dsimp only
    cases isName pn <;> simp [Bool.and_comm] : okT (pn, pv) = _)
  have HM : Hid (∀ w, Calls Tryz.prog 106 #[.string (str pn)] w fun e w' => e = .returned (.bool (trails pn)) ∧ Below w.heap.size w w') := fun w => rMayTrail_any pn h1 w
  have HV : Hid (∀ w, Calls Tryz.prog 102 #[.string (str pv)] w fun e w' => e = .returned (.bool (isValue pv)) ∧ Below w.heap.size w w') := fun w => by
    have h := rIsValue_any (str pv) (by rw [str_size]; exact h2) w
    rw [str_list] at h
    exact h.mono (fun e w' ⟨he, hw⟩ => ⟨he, by rw [hw]; exact Below.refl _ _⟩)
  have hb1 : Below w.heap.size w (w.alloc (.cells #[.string (str pn), .string (str pv)] 80)) := (Below.refl _ w).alloc (Nat.le_refl _) _
  have HB1 : Hid (Below w.heap.size w (w.alloc (.cells #[.string (str pn), .string (str pv)] 80))) := hb1
  rw [HOk.out]
  generalize trails pn = tr at *
  generalize isValue pv = iv at *
  generalize str pn = N at *
  generalize str pv = V at *
  have HC1 : Hid ((w.alloc (.cells #[.string N, .string V] 80)).cell? ⟨w.heap.size, 1, none⟩ = some (.string V)) := (by simp : _ = _)
  clear hb1
  go_enter Tryz.func76, Tryz.ntmps76
  go_wp2_with fail
  refine (HM.out _).mono ?_
  rintro e w2 ⟨rfl, hb2⟩
  have HB2 : Hid (Below w.heap.size w w2) := bel_trans HB1.out hb2
  have hC2 : w2.cell? ⟨w.heap.size, 1, none⟩ = some (.string V) := (hb2.cell (World.block_lt_of_cell? _ _ HC1.out)).trans HC1.out
  clear hb2 HC1 HB1
  cases tr with
  | false =>
    go_wp2
    go_ret
    exact ⟨rfl, HB2.out⟩
  | true =>
    go_wp2_with fail
    refine (HV.out _).mono ?_
    rintro e w3 ⟨rfl, hb3⟩
    have HB3 : Hid (Below w.heap.size w w3) := bel_trans HB2.out hb3
    clear hb3
    go_wp2
    go_ret
    exact ⟨rfl, HB3.out⟩

end Ck
end Go.Proofs.YtcelekfokbdmfaaGreatDoor

/-
  For the laws over coded bodies: appends in drawn regions, what was encoded.
-/
set_option linter.unusedVariables false
set_option linter.unusedSimpArgs false
set_option maxRecDepth 100000
namespace Go.Proofs.YtcelekfokbdmfaaGreatDoor
open Go.RowKit Go.Shelf
namespace Ck
open Oc Tg _root_.Go.Proofs.YtcelekfokbdmfaaGreatDoor.Fd

/-- All that lay in x lies still. -/
def SB (x W : World) : Prop := Below x.heap.size x W
theorem SB.refl (x : World) : SB x x := Below.refl _ _
theorem SB.drew {x W : World} (h : SB x W) : SB x W.drew := Below.drew h
theorem SB.alloc {x W : World} (h : SB x W) (o : Obj) : SB x (W.alloc o) := Below.alloc h h.size _
theorem SB.on {x W W' : World} (h : SB x W) (b : Below W.heap.size W W') : SB x W' := bel_trans h b
theorem OwnI.zero {B : Nat} {v : Value} {l : List Int} {w : World} (h : OwnI B v l w) : OwnI 0 v l w := by
  refine ⟨h.1, ?_⟩
  rcases h.2 with h | ⟨g, cap, cur, e, _, rest⟩
  · exact .inl h
  · exact .inr ⟨g, cap, cur, e, Nat.zero_le _, rest⟩
theorem ownF_zero {T B : Nat} {v : Value} {l : List Fl} {w : World} (h : OwnF T B v l w) : OwnF T 0 v l w := by
  refine ⟨h.1, ?_⟩
  rcases h.2 with h | ⟨g, cap, cur, e, _, rest⟩
  · exact .inl h
  · exact .inr ⟨g, cap, cur, e, Nat.zero_le _, rest⟩
theorem keepI {B : Nat} {v u : Value} {t : List Fl} {m : List Int} {W w' : World} (hF : OwnF 63 B v t W) (hI : OwnI 0 u m W) (hb : But v.ownBlock.toList W w') : OwnI 0 u m w' :=
  hb.owns hI (fun g hg e => by
    have e' : v.ownBlock = some g := by simpa using e
    exact ne_rows (ownF_zero hF) hI (by decide) e' hg)

/-- A slice of fields appended to one of the call's own, in a region that draws its order. -/
theorem step_appFs {ops : Array Oper} {o : Oper} {a : Act} {K : Act → World → Prop} {Q : Exit → Act → World → Prop} {E' : Prop} (hgd : o.guard = none) (s x : Operand)
    (ho : o.op = .call { callee := .builtin .append, args := #[s, x], argTypes := #[22, 22] }) (B : Nat) (v y : Value) (t u : List Fl) (W : World)
    (hs : a.eval s = v) (hown : OwnF 63 B v t W) (hx : a.eval x = y) (hy : InF y u W) (hlen : t.length + u.length ≤ 2147483648) (hB : B ≤ W.heap.size)
    (h : ∀ v' w', Hid (OwnF 63 B v' (t ++ u) w') → Hid (But v.ownBlock.toList W w') → Hid (Below B W w') → K (a.put o.dst v') w') :
    if Region.wanted o (yielded ops a.tmps) = true then Oper.wp Tryz.prog o a W K Q else E' := by
  rw [if_pos (by simp [Region.wanted, hgd])]
  obtain ⟨i0, hi, hz0, hz1, hz2⟩ := info_parts infoF
  have own' : ∀ (ad : Addr) (c : Nat), y = .slice (some ad) u.length c → (∀ j z, (encF u)[j]? = some z → W.cell? (ad.add j) = some z) → o.wp Tryz.prog a W K Q := by
    intro ad c ey hcell
    refine wp_append_own W s x 22 ho B 63 i0 (.agg #[.string ⟨#[]⟩, .string ⟨#[]⟩]) 2 32 Tryz.underlying22 hi hz0 hz1 hz2 rfl (by decide) v t.length _ hs hown ad u.length c (encF u) (hx.trans ey) (encF_len u) hcell ?_ ?_ ?_ hB ?_
    · intro z hz
      obtain ⟨j, hj⟩ := List.getElem?_of_mem hz
      obtain ⟨_, e⟩ := encF_get u j z hj
      rw [e]
      split <;> rfl
    · unfold maxLen; omega
    · omega
    · intro v' w' h1 h2 _
      refine h v' w' ?_ ((But.refl _ W).grown h2 (fun k hk => by rw [hk]; simp)) ((Below.refl B W).grown h2 hB (fun k hk => (World.ownsRow.lt hown k hk).1))
      show OwnF _ _ _ _ _
      unfold OwnF
      rw [List.length_append, show encF (t ++ u) = encF t ++ encF u by unfold encF; rw [List.flatMap_append]]
      exact h1
  obtain ⟨⟨a2, c2, rfl, hr⟩, hnil⟩ := hy
  by_cases hu : u = []
  · subst hu
    rcases hnil rfl with e | ⟨g, c, e⟩
    · have hrun := run_append_owned_none (P := Tryz.prog) (w := W) B 22 o.type 63 i0 2 Tryz.underlying22 hi v t.length _ hown
      have hx' : a.eval x = .slice none 0 0 := hx.trans e
      unfold Oper.wp
      simp [execOp, ho, resolve, invoke, builtin, hs, hx', hrun, Result.andThen]
      exact h v W (by rw [List.append_nil]; exact hown) (But.refl _ _) (Below.refl _ _)
    · exact own' g c e (fun j z hj => by simp [encF] at hj)
  · rcases hr with hr | ⟨g, o', rfl, hc, hcell⟩
    · exact absurd hr hu
    · refine own' ⟨g, o', none⟩ c2 rfl (fun j z hj => ?_)
      rw [addr_add]
      obtain ⟨hq, e⟩ := encF_get u j z hj
      obtain ⟨h0, h1⟩ := hcell (j / 2) hq
      rw [e]
      by_cases hm : j % 2 = 0
      · rw [if_pos hm]
        rw [show o' + j / 2 * 2 = o' + j by omega] at h0
        exact h0
      · rw [if_neg hm]
        rw [show o' + j / 2 * 2 + 1 = o' + j by omega] at h1
        exact h1

theorem chunkC_ge (t : List UInt8) : t.length ≤ (chunkC t).length := by
  unfold chunkC
  split
  · next h => subst h; simp
  · simp only [List.length_append]; omega
theorem cutC_ge : ∀ (l : List Int) (t : List UInt8), t.length ≤ (cutC l t).length
  | [], t => chunkC_ge t
  | n :: l, t => by
    have h1 := chunkC_ge (t.take n.toNat)
    have h2 := cutC_ge l (t.drop n.toNat)
    show t.length ≤ (chunkC (t.take n.toNat) ++ cutC l (t.drop n.toNat)).length
    rw [List.length_append]
    have h3 : (t.drop n.toNat).length = t.length - n.toNat := List.length_drop
    have h4 : (t.take n.toNat).length = min n.toNat t.length := List.length_take
    omega
theorem cutC_len : ∀ (l : List Int) (t : List UInt8), t.length ≤ 1099511627776 → (cutC l t).length ≤ t.length + 15 * (l.length + 1)
  | [], t, h => by
    have := chunkC_len t h
    show (chunkC t).length ≤ _
    simp only [List.length_nil]
    omega
  | n :: l, t, h => by
    have h2 : (t.drop n.toNat).length = t.length - n.toNat := List.length_drop
    have h3 : (t.take n.toNat).length = min n.toNat t.length := List.length_take
    have e1 := chunkC_len (t.take n.toNat) (by omega)
    have e2 := cutC_len l (t.drop n.toNat) (by omega)
    show (chunkC (t.take n.toNat) ++ cutC l (t.drop n.toNat)).length ≤ _
    rw [List.length_append]
    simp only [List.length_cons]
    omega

/-- Encode of what may be encoded. -/
theorem Encode_right (A : ByteArray) (hA : A.size ≤ 1048576) (u : Value) (m : List Int) (hml : m.length ≤ 1048576) (hmx : ∀ x ∈ m, 1 ≤ x ∧ x ≤ 5000) (v : Value) (t : List Fl) (hs : sumF t ≤ 1048576) (hall : t.all okT = true) (w : World) {B : Nat} (hI : OwnI 0 u m w) (hF : OwnF 63 B v t w) (tab : Tab w) (td : Deb w) :
    Calls Tryz.prog 43 #[.string A, u, v] w fun e w' => ∃ X : ByteArray, e = .returned (.tuple #[.string X, .int .i64 0]) ∧ X.data.toList = encL A.data.toList m t ∧ A.size + 5 ≤ X.size ∧ (trailG t).length + 2 ≤ X.size ∧ X.size ≤ 20000000 ∧ Below w.heap.size w w' := by
  have h := Encode_any A hA u m hml v t hs w (hI.rd (fun x hx => by have := hmx x hx; omega)) hF.rd tab td
  rw [encR_yes (fun x hx => (hmx x hx).1) hall] at h
  have h1 := encL_len A.data.toList m t
  have h2 := cutC_ge m A.data.toList
  have h3 := cutC_len m A.data.toList (by rw [size_list]; omega)
  have h4 := trailG_len t
  have h5 := size_list A
  refine h.mono (fun e w' ⟨he, hb⟩ => ⟨str (encL A.data.toList m t), he, str_list _, ?_, ?_, ?_, hb⟩)
  · rw [str_size]; omega
  · rw [str_size]; omega
  · rw [str_size]; omega

end Ck
end Go.Proofs.YtcelekfokbdmfaaGreatDoor

/-
  Appends in drawn regions: to a slice that was made empty just now, to one of the call's own (fields of whatever type).
-/
set_option linter.unusedVariables false
set_option linter.unusedSimpArgs false
set_option maxRecDepth 100000
namespace Go.Proofs.YtcelekfokbdmfaaGreatDoor
open Go.RowKit Go.Shelf
namespace Ms
open Oc Tg _root_.Go.Proofs.YtcelekfokbdmfaaGreatDoor.Fd _root_.Go.Proofs.YtcelekfokbdmfaaGreatDoor.Ck

/-- Appended to an empty slice that was made just now: nothing that lay is turned. -/
theorem step_fresh {ops : Array Oper} {o : Oper} {a : Act} {K : Act → World → Prop} {Q : Exit → Act → World → Prop} {E' : Prop} (T S : Nat) (z : Value) (size bytes : Nat)
    (hinfo : (Tryz.prog.info? T).map (fun i => (i.zero, i.size, i.bytes)) = some (some z, size, bytes)) (hzs : z.cells.size = size)
    (hund : Tryz.prog.underlying S = some (.slice T)) (hgd : o.guard = none) (s x : Operand)
    (ho : o.op = .call { callee := .builtin .append, args := #[s, x], argTypes := #[S, S] }) (B g : Nat) (y : Value) (m : Nat) (news : List Value) (W : World)
    (hs : a.eval s = .slice (some ⟨g, 0, none⟩) 0 0) (hB : B ≤ g) (hgw : W.heap[g]? = some (.cells #[] T (0, 0))) (hx : a.eval x = y) (hl : news.length = m * size)
    (hy : (y = .slice none 0 0 ∧ m = 0) ∨ ∃ ad c, y = .slice (some ad) m c ∧ ∀ j u, news[j]? = some u → W.cell? (ad.add j) = some u)
    (hlen : m ≤ 2147483648) (hb2 : m * bytes ≤ 140737488355328)
    (h : ∀ v' w', Hid (w'.ownsRow B T size v' m news) → Hid (Below W.heap.size W w') → K (a.put o.dst v') w') :
    if Region.wanted o (yielded ops a.tmps) = true then Oper.wp Tryz.prog o a W K Q else E' := by
  rw [if_pos (by simp [Region.wanted, hgd])]
  obtain ⟨i0, hi, hz0, hz1, hz2⟩ := info_parts hinfo
  have hgl : g < W.heap.size := by
    rcases Nat.lt_or_ge g W.heap.size with h | h
    · exact h
    · rw [Array.getElem?_eq_none h] at hgw
      cases hgw
  have hown : W.ownsRow B T size (.slice (some ⟨g, 0, none⟩) 0 0) 0 [] := ⟨by simp, .inr ⟨g, 0, #[], rfl, hB, hgw, Nat.le_refl _, by decide, by simp, by simp⟩⟩
  rcases hy with ⟨e, hm0⟩ | ⟨ad, c, e, hnews⟩
  · subst hm0
    have hn : news = [] := List.eq_nil_of_length_eq_zero (by simpa using hl)
    subst hn
    have hrun := run_append_owned_none (P := Tryz.prog) (w := W) B S o.type T i0 size hund hi _ 0 _ hown
    have hx' : a.eval x = .slice none 0 0 := hx.trans e
    unfold Oper.wp
    simp [execOp, ho, resolve, invoke, builtin, hs, hx', hrun, Result.andThen]
    exact h _ W hown (Below.refl _ _)
  · by_cases hm0 : m = 0
    · subst hm0
      have hn : news = [] := List.eq_nil_of_length_eq_zero (by simpa using hl)
      subst hn
      have hrun := run_append_room (P := Tryz.prog) W S o.type T i0 hund hi g 0 0 #[] hgw ad 0 c [] (by simp) (by simp) (by simp) (by simp) (by simp)
      have hx' : a.eval x = .slice (some ad) 0 c := hx.trans e
      unfold Oper.wp
      simp [execOp, ho, resolve, invoke, builtin, hs, hx', Result.andThen] at hrun ⊢
      rw [hrun]
      have hsame : ∀ k : Nat, (W.setRow g (#[] : Array Value)).heap[k]? = W.heap[k]? := fun k => by
        by_cases e : k = g
        · subst e
          rw [setRow_heap W k #[] _ T (0, 0) hgw, hgw]
        · exact setRow_other W g k _ e
      refine h _ _ ?_ ?_
      · refine ⟨by simp, .inr ⟨g, 0, #[], rfl, hB, ?_, Nat.le_refl _, by decide, by simp, by simp⟩⟩
        exact (hsame g).trans hgw
      · exact ⟨rfl, rfl, rfl, by simp [World.setRow], fun k hk => hsame k⟩
    · have hrun := run_append_grow (P := Tryz.prog) W S o.type T i0 _ hund hi hz0 ⟨g, 0, none⟩ 0 0 [] (by simp) (by simp) ad m c news (by rw [hz1]; exact hl) hnews (by omega) (by omega) (growslice_fits (by omega) (by rw [hz2]; simpa using hb2))
      simp only [Nat.zero_add] at hrun
      have hx' : a.eval x = .slice (some ad) m c := hx.trans e
      unfold Oper.wp
      simp only [execOp, ho, resolve, invoke, builtin, Sem.run_bind, Sem.run_pure, Result.andThen_ok, List.map_toArray, List.map_cons, List.map_nil, hs, hx', hrun]
      have hge := grownCap_ge W m 0 T
      have hcm : grownCap W m 0 T ≤ maxLen := grownCap_le_maxLen W m 0 T (by unfold maxLen; omega)
      refine h _ _ ?_ ?_
      · refine ⟨hl, .inr ⟨W.heap.size, _, _, rfl, by omega, heap_alloc_new W.drew _, hge, hcm, ?_, ?_⟩⟩
        · simp only [Array.size_append, List.size_toArray, size_zeroCells, hzs, hl, List.length_nil, Nat.zero_add, ← Nat.add_mul]
          congr 1
          omega
        · rw [← hl]
          simp
      · exact (below_drewN (Below.refl _ W) 1).alloc (Nat.le_refl _) _

/-- What may be appended, as cells. -/
theorem inF_cells {y : Value} {u : List Fl} {W : World} (hy : InF y u W) : (y = .slice none 0 0 ∧ u.length = 0) ∨ ∃ ad c, y = .slice (some ad) u.length c ∧ ∀ j z, (encF u)[j]? = some z → W.cell? (ad.add j) = some z := by
  obtain ⟨⟨a2, c2, rfl, hr⟩, hnil⟩ := hy
  by_cases hu : u = []
  · subst hu
    rcases hnil rfl with e | ⟨g, c, e⟩
    · exact .inl ⟨e, rfl⟩
    · exact .inr ⟨g, c, e, fun j z hj => by simp [encF] at hj⟩
  · rcases hr with hr | ⟨g, o', rfl, hc, hcell⟩
    · exact absurd hr hu
    · refine .inr ⟨⟨g, o', none⟩, c2, rfl, fun j z hj => ?_⟩
      rw [addr_add]
      obtain ⟨hq, e⟩ := encF_get u j z hj
      obtain ⟨h0, h1⟩ := hcell (j / 2) hq
      rw [e]
      by_cases hm : j % 2 = 0
      · rw [if_pos hm]
        rw [show o' + j / 2 * 2 = o' + j by omega] at h0
        exact h0
      · rw [if_neg hm]
        rw [show o' + j / 2 * 2 + 1 = o' + j by omega] at h1
        exact h1
theorem step_freshF {ops : Array Oper} {o : Oper} {a : Act} {K : Act → World → Prop} {Q : Exit → Act → World → Prop} {E' : Prop} (T S : Nat)
    (hinfo : (Tryz.prog.info? T).map (fun i => (i.zero, i.size, i.bytes)) = some (some (.agg #[.string ⟨#[]⟩, .string ⟨#[]⟩]), 2, 32))
    (hund : Tryz.prog.underlying S = some (.slice T)) (hgd : o.guard = none) (s x : Operand)
    (ho : o.op = .call { callee := .builtin .append, args := #[s, x], argTypes := #[S, S] }) (B g : Nat) (y : Value) (u : List Fl) (W : World)
    (hs : a.eval s = .slice (some ⟨g, 0, none⟩) 0 0) (hB : B ≤ g) (hgw : W.heap[g]? = some (.cells #[] T (0, 0))) (hx : a.eval x = y) (hy : InF y u W) (hlen : u.length ≤ 2147483648)
    (h : ∀ v' w', Hid (OwnF T B v' u w') → Hid (Below W.heap.size W w') → K (a.put o.dst v') w') :
    if Region.wanted o (yielded ops a.tmps) = true then Oper.wp Tryz.prog o a W K Q else E' :=
  step_fresh T S _ 2 32 hinfo rfl hund hgd s x ho B g y u.length (encF u) W hs hB hgw hx (encF_len u) (inF_cells hy) hlen (by omega) h

/-- A slice of fields appended to one of the call's own, in a region that draws its order. -/
theorem step_appX {ops : Array Oper} {o : Oper} {a : Act} {K : Act → World → Prop} {Q : Exit → Act → World → Prop} {E' : Prop} (T S : Nat)
    (hinfo : (Tryz.prog.info? T).map (fun i => (i.zero, i.size, i.bytes)) = some (some (.agg #[.string ⟨#[]⟩, .string ⟨#[]⟩]), 2, 32))
    (hund : Tryz.prog.underlying S = some (.slice T)) (hgd : o.guard = none) (s x : Operand)
    (ho : o.op = .call { callee := .builtin .append, args := #[s, x], argTypes := #[S, S] }) (B : Nat) (v y : Value) (t u : List Fl) (W : World)
    (hs : a.eval s = v) (hown : OwnF T B v t W) (hx : a.eval x = y) (hy : InF y u W) (hlen : t.length + u.length ≤ 2147483648) (hB : B ≤ W.heap.size)
    (h : ∀ v' w', Hid (OwnF T B v' (t ++ u) w') → Hid (Below B W w') → K (a.put o.dst v') w') :
    if Region.wanted o (yielded ops a.tmps) = true then Oper.wp Tryz.prog o a W K Q else E' := by
  rw [if_pos (by simp [Region.wanted, hgd])]
  obtain ⟨i0, hi, hz0, hz1, hz2⟩ := info_parts hinfo
  rcases inF_cells hy with ⟨e, hu⟩ | ⟨ad, c, e, hcell⟩
  · have hu' := List.eq_nil_of_length_eq_zero hu
    subst hu'
    have hrun := run_append_owned_none (P := Tryz.prog) (w := W) B S o.type T i0 2 hund hi v t.length _ hown
    have hx' : a.eval x = .slice none 0 0 := hx.trans e
    unfold Oper.wp
    simp [execOp, ho, resolve, invoke, builtin, hs, hx', hrun, Result.andThen]
    exact h v W (by rw [List.append_nil]; exact hown) (Below.refl _ _)
  · refine wp_append_own W s x S ho B T i0 (.agg #[.string ⟨#[]⟩, .string ⟨#[]⟩]) 2 32 hund hi hz0 hz1 hz2 rfl (by decide) v t.length _ hs hown ad u.length c (encF u) (hx.trans e) (encF_len u) hcell ?_ ?_ ?_ hB ?_
    · intro z hz
      obtain ⟨j, hj⟩ := List.getElem?_of_mem hz
      obtain ⟨_, e⟩ := encF_get u j z hj
      rw [e]
      split <;> rfl
    · unfold maxLen; omega
    · omega
    · intro v' w' h1 h2 _
      refine h v' w' ?_ ((Below.refl B W).grown h2 hB (fun k hk => (World.ownsRow.lt hown k hk).1))
      show OwnF _ _ _ _ _
      unfold OwnF
      rw [List.length_append, show encF (t ++ u) = encF t ++ encF u by unfold encF; rw [List.flatMap_append]]
      exact h1

/-- The world as it stands here. -/
theorem at_world {ops : Array Oper} {o : Oper} {a : Act} {K : Act → World → Prop} {Q : Exit → Act → World → Prop} {E' : Prop} (W : World)
    (h : if Region.wanted o (yielded ops a.tmps) = true then Oper.wp Tryz.prog o a W K Q else E') : if Region.wanted o (yielded ops a.tmps) = true then Oper.wp Tryz.prog o a W K Q else E' := h
theorem Below.kept1 {B : Nat} {w w' : World} (h : Below B w w') {k : Nat} {o : Obj} (hk : k < B) (e : w.heap[k]? = some o) : w'.heap[k]? = some o := (h.block k hk).trans e

end Ms
end Go.Proofs.YtcelekfokbdmfaaGreatDoor
