/- Several texts as one. -/
import Derived.Test.YtepidekmnkempaaDoorMgJ
import Derived.Test.YtepidekmnkempaaDoorMgD
import Derived.Test.YtepidekmnkempaaDoorMgE
import Derived.Test.YtepidekmnkempaaDoorMgB
/-
  What lies in the world, and the library's Cut.
-/
set_option linter.unusedVariables false
set_option linter.unusedSimpArgs false
namespace Go.Proofs.YtepidekmnkempaaDoor
open Go.RowKit Go.Shelf
namespace Ac
open Oc Tg

/-- The library's MaxLen lies. -/
def ML (w : World) : Prop := ∃ m : Int, w.cell? ⟨0, 0, none⟩ = some (.int .i64 m)
theorem ML.below {w w' : World} (h : ML w) (hb : Below w.heap.size w w') : ML w' := by
  obtain ⟨m, hm⟩ := h
  exact ⟨m, (hb.cell (p := ⟨0, 0, none⟩) (World.block_lt_of_cell? w _ hm)).trans hm⟩
/-- What the walks lean on: the table of signs, and MaxLen. -/
def Env (w : World) : Prop := Tab w ∧ ML w
theorem Env.below {w w' : World} (h : Env w) (hb : Below w.heap.size w w') : Env w' := ⟨h.1.below hb (Nat.le_refl _), h.2.below hb⟩

theorem Cut_any (s p : ByteArray) (hs : s.size ≤ 4000000000) (w : World) (h : ML w) :
    Calls Tryd.prog 25 #[.string s, .string p] w fun e w' => e = .returned (.tuple #[.string (str (Lib.cut s.data.toList p.data.toList).1), .string (str (Lib.cut s.data.toList p.data.toList).2.1), .bool (Lib.cut s.data.toList p.data.toList).2.2]) ∧ Below w.heap.size w w' := by
  obtain ⟨m, hm⟩ := h
  refine (Tryd.strings_Cut s p m w (by omega) hm).mono ?_
  rintro e w' ⟨rfl, n, rfl⟩
  exact ⟨rfl, ⟨rfl, rfl, rfl, Nat.le_refl _, fun _ _ => rfl⟩⟩
theorem Cut_one (s : ByteArray) (b : UInt8) (hs : s.size ≤ 4000000000) (w : World) (h : ML w) :
    Calls Tryd.prog 25 #[.string s, .string ⟨#[b]⟩] w fun e w' => e = .returned (.tuple #[.string (str (cutA b s.data.toList)), .string (str (cutB b s.data.toList)), .bool (has b s.data.toList)]) ∧ Below w.heap.size w w' := by
  have h := Cut_any s ⟨#[b]⟩ hs w h
  rw [show (⟨#[b]⟩ : ByteArray).data.toList = [b] from rfl, cut_one] at h
  exact h

end Ac
end Go.Proofs.YtepidekmnkempaaDoor

/-
  slices.IndexFunc and ContainsFunc over parameters.
-/
set_option linter.unusedVariables false
set_option linter.unusedSimpArgs false
namespace Go.Proofs.YtepidekmnkempaaDoor
open Go.RowKit Go.Shelf
namespace Ac
open Oc Tg

def idxB (f : Prm → Bool) (l : List Prm) : Int := match l.findIdx? f with | some k => (k : Int) | none => -1
theorem idxB_at {f : Prm → Bool} {l : List Prm} {k : Nat} (hk : k < l.length) (h1 : f (nth l k) = true) (h2 : ∀ j, j < k → f (nth l j) = false) : idxB f l = k := by
  unfold idxB
  have : l.findIdx? f = some k := by
    rw [List.findIdx?_eq_some_iff_getElem]
    refine ⟨hk, ?_, fun j hj => ?_⟩
    · have := h1
      unfold nth at this
      rwa [List.getD_eq_getElem?_getD, List.getElem?_eq_getElem hk] at this
    · have := h2 j hj
      unfold nth at this
      rw [List.getD_eq_getElem?_getD, List.getElem?_eq_getElem (by omega)] at this
      simpa using this
  rw [this]
theorem idxB_none {f : Prm → Bool} {l : List Prm} (h2 : ∀ j, j < l.length → f (nth l j) = false) : idxB f l = -1 := by
  unfold idxB
  have : l.findIdx? f = none := by
    rw [List.findIdx?_eq_none_iff]
    intro x hx
    obtain ⟨j, hj, rfl⟩ := List.mem_iff_getElem.1 hx
    have := h2 j hj
    unfold nth at this
    rwa [List.getD_eq_getElem?_getD, List.getElem?_eq_getElem hj] at this
  rw [this]
theorem idxB_any (f : Prm → Bool) (l : List Prm) : decide (0 ≤ idxB f l) = l.any f := by
  unfold idxB
  cases h : l.findIdx? f with
  | none =>
    rw [List.findIdx?_eq_none_iff] at h
    have : l.any f = false := List.any_eq_false.2 (fun x hx => by rw [h x hx]; decide)
    rw [this]
    decide
  | some k =>
    rw [List.findIdx?_eq_some_iff_getElem] at h
    obtain ⟨hk, h1, _⟩ := h
    have : l.any f = true := List.any_eq_true.2 ⟨_, List.getElem_mem hk, h1⟩
    rw [this]
    exact decide_eq_true (by simp)
/-- No text of theirs is longer. -/
def EachP (M : Nat) (l : List Prm) : Prop := ∀ p ∈ l, p.1.length ≤ M ∧ p.2.1.length ≤ M
theorem EachP.at {M : Nat} {l : List Prm} (h : EachP M l) (k : Nat) (hk : k < l.length) : (nth l k).1.length ≤ M ∧ (nth l k).2.1.length ≤ M := by
  refine h _ ?_
  unfold nth
  rw [List.getD_eq_getElem?_getD, List.getElem?_eq_getElem hk]
  exact List.getElem_mem hk
def noVal (p : Prm) : Bool := !p.2.2
def notSmall (p : Prm) : Bool := !decide (lower p.1 = p.1)
def isQ (p : Prm) : Bool := decide (p.1 = [113])
theorem veq (a b : List UInt8) : ((str a).toList == (str b).toList) = decide (a = b) := by
  rw [eq_toList, Bool.eq_iff_iff, decide_eq_true_iff, decide_eq_true_iff]
  exact ⟨str_inj, fun h => by rw [h]⟩

set_option maxRecDepth 100000 in
set_option maxHeartbeats 1000000 in
theorem noVal_any (p : Prm) (hp : p.1.length ≤ maxLen) (w : World) :
    Calls Tryd.prog 30 #[.agg #[.string (str p.1), .string (str p.2.1), .bool p.2.2]] w fun e w' => e = .returned (.bool (noVal p)) ∧ Below w.heap.size w w' := by
  obtain ⟨n, v, b⟩ := p
  dsimp only at hp ⊢
  obtain ⟨w2, hw2⟩ : ∃ w2, w2 = w.alloc (.cells #[.string (str n), .string (str v), .bool b] 71) := ⟨_, rfl⟩
  have R1 : w2.heap[w.heap.size]? = some (.cells #[.string (str n), .string (str v), .bool b] 71 (0, 0)) := by
    rw [hw2]; exact heap_alloc_new w _
  have HB2 : Hid (Below w.heap.size w w2) := by show Below _ _ _; rw [hw2]; exact (Below.refl _ w).alloc (Nat.le_refl _) _
  have c0 := Lib.cell_of_heap R1 0
  have c2 := Lib.cell_of_heap R1 2
  simp at c0 c2
  clear R1
  clear c0
  subst hw2
  go_enter Tryd.func30, Tryd.ntmps30
  go_wp2
  go_ret
  exact ⟨rfl, HB2.out⟩

set_option maxRecDepth 100000 in
set_option maxHeartbeats 2000000 in
theorem IndexFunc_noVal (v : Value) (ps : List Prm) (hM : EachP maxLen ps) (hl : ps.length ≤ 4294967296) (w : World) (hrd : RdP v ps w) :
    Calls Tryd.prog 53 #[v, .func (.func 30) #[] #[]] w fun e w' => e = .returned (.int .i64 (idxB noVal ps)) ∧ Below w.heap.size w w' := by
  have HR : Hid (RdP v ps w) := hrd
  have HM : Hid (EachP maxLen ps) := hM
  obtain ⟨a, c, rfl, _⟩ := hrd
  clear hM
  go_enter Tryd.func53, Tryd.ntmps53
  go_wp2
  go_loopw [8] (fun i wr => ∃ k : Nat, k ≤ ps.length ∧ i = .int .i64 k ∧ Hid (∀ j, j < k → noVal (nth ps j) = false) ∧ Hid (Below w.heap.size w wr)) (fun i _ => ps.length - (intOf i).toNat)
  case atStart => exact ⟨0, Nat.zero_le _, rfl, (fun j hj => by omega : ∀ j, j < 0 → _), Below.refl _ _⟩
  case round =>
    obtain ⟨k, hk, rfl, hall, hbl⟩ := hrel
    by_cases hlt : k < ps.length
    · obtain ⟨a', c', e', hcs⟩ := HR.out.below hbl.out
      injection e' with e1 _ e2
      subst e1 e2
      rcases hcs with h | ⟨g, o, rfl, hlc, hcell⟩
      · rw [h] at hlt; simp at hlt
      obtain ⟨p0, p1, p2⟩ := hcell k hlt
      clear hcell
      have HN : Hid (Calls Tryd.prog 30 #[.agg #[.string (str (nth ps k).1), .string (str (nth ps k).2.1), .bool (nth ps k).2.2]] wr fun e w' => e = .returned (.bool (noVal (nth ps k))) ∧ Below wr.heap.size wr w') :=
        noVal_any _ (HM.out.at k hlt).1 wr
      have HT : noVal (nth ps k) = true → Hid (idxB noVal ps = k) := fun h => idxB_at hlt h hall.out
      have HF : noVal (nth ps k) = false → Hid (∀ j, j < k + 1 → noVal (nth ps j) = false) := fun h j hj => by
        by_cases hjk : j = k
        · subst hjk; exact h
        · exact hall.out j (by omega)
      generalize str (nth ps k).1 = X at p0 HN
      generalize str (nth ps k).2.1 = Y at p1 HN
      generalize noVal (nth ps k) = b at HN HT HF
      generalize (nth ps k).2.2 = Z at p2 HN
      cases b with
      | true =>
        have HT2 := HT rfl
        clear HT HF
        go_wp2_with fail
        refine HN.out.mono ?_
        rintro e w2 ⟨rfl, hb2⟩
        have HB2 : Hid (Below w.heap.size w w2) := bel_trans hbl.out hb2
        clear hb2
        go_wp2
        go_ret
        exact ⟨ret_int HT2.out.symm, HB2.out⟩
      | false =>
        have HF2 := HF rfl
        clear HT HF
        go_wp2_with fail
        refine HN.out.mono ?_
        rintro e w2 ⟨rfl, hb2⟩
        have HB2 : Hid (Below w.heap.size w w2) := bel_trans hbl.out hb2
        clear hb2
        go_wp2
        go_roundw
        case rel => exact ⟨k + 1, by omega, by go_num, HF2, HB2⟩
        case measure => simp [intOf]; omega
    · have HE : Hid (idxB noVal ps = -1) := idxB_none (fun j hj => hall.out j (by omega))
      go_wp2
      go_ret
      exact ⟨ret_int HE.out.symm, hbl.out⟩

set_option maxRecDepth 100000 in
set_option maxHeartbeats 1000000 in
theorem ContainsFunc_noVal (v : Value) (ps : List Prm) (hM : EachP maxLen ps) (hl : ps.length ≤ 4294967296) (w : World) (hrd : RdP v ps w) :
    Calls Tryd.prog 29 #[v, .func (.func 30) #[] #[]] w fun e w' => e = .returned (.bool (ps.any noVal)) ∧ Below w.heap.size w w' := by
  have H := IndexFunc_noVal v ps hM hl w hrd
  have HA : Hid (decide (0 ≤ idxB noVal ps) = ps.any noVal) := idxB_any _ _
  clear hrd hM
  generalize idxB noVal ps = z at *
  generalize ps.any noVal = b at *
  go_enter Tryd.func29, Tryd.ntmps29
  go_wp2_with fail
  refine H.mono ?_
  rintro e w2 ⟨rfl, hb2⟩
  go_wp2
  go_ret
  exact ⟨ret_bool HA.out, hb2⟩

set_option maxRecDepth 100000 in
set_option maxHeartbeats 1000000 in
theorem allValued_any (v : Value) (ps : List Prm) (hM : EachP maxLen ps) (hl : ps.length ≤ 4294967296) (w : World) (hrd : RdP v ps w) :
    Calls Tryd.prog 14 #[v] w fun e w' => e = .returned (.bool (!ps.any noVal)) ∧ Below w.heap.size w w' := by
  have H := ContainsFunc_noVal v ps hM hl w hrd
  clear hrd hM
  generalize ps.any noVal = b at *
  go_enter Tryd.func14, Tryd.ntmps14
  go_wp2_with fail
  refine H.mono ?_
  rintro e w2 ⟨rfl, hb2⟩
  go_wp2
  go_ret
  exact ⟨rfl, hb2⟩

set_option maxRecDepth 100000 in
set_option maxHeartbeats 1000000 in
theorem isQ_any (p : Prm) (hp : p.1.length ≤ maxLen) (w : World) :
    Calls Tryd.prog 61 #[.agg #[.string (str p.1), .string (str p.2.1), .bool p.2.2]] w fun e w' => e = .returned (.bool (isQ p)) ∧ Below w.heap.size w w' := by
  obtain ⟨n, v, b⟩ := p
  dsimp only at hp ⊢
  obtain ⟨w2, hw2⟩ : ∃ w2, w2 = w.alloc (.cells #[.string (str n), .string (str v), .bool b] 71) := ⟨_, rfl⟩
  have R1 : w2.heap[w.heap.size]? = some (.cells #[.string (str n), .string (str v), .bool b] 71 (0, 0)) := by
    rw [hw2]; exact heap_alloc_new w _
  have HB2 : Hid (Below w.heap.size w w2) := by show Below _ _ _; rw [hw2]; exact (Below.refl _ w).alloc (Nat.le_refl _) _
  have c0 := Lib.cell_of_heap R1 0
  have c2 := Lib.cell_of_heap R1 2
  simp at c0 c2
  clear R1
  have HQ : Hid (((str n).toList == [113]) = isQ (n, v, b)) := by
    have h := veq n [113]
    have e : (str [113]).toList = [113] := by rw [Lib.toList_data]; rfl
    rw [e] at h
    exact h
  clear c2 hp
  subst hw2
  go_enter Tryd.func61, Tryd.ntmps61
  go_wp2
  go_ret
  exact ⟨ret_bool HQ.out, HB2.out⟩

set_option maxRecDepth 100000 in
set_option maxHeartbeats 2000000 in
theorem IndexFunc_isQ (v : Value) (ps : List Prm) (hM : EachP maxLen ps) (hl : ps.length ≤ 4294967296) (w : World) (hrd : RdP v ps w) :
    Calls Tryd.prog 53 #[v, .func (.func 61) #[] #[]] w fun e w' => e = .returned (.int .i64 (idxB isQ ps)) ∧ Below w.heap.size w w' := by
  have HR : Hid (RdP v ps w) := hrd
  have HM : Hid (EachP maxLen ps) := hM
  obtain ⟨a, c, rfl, _⟩ := hrd
  clear hM
  go_enter Tryd.func53, Tryd.ntmps53
  go_wp2
  go_loopw [8] (fun i wr => ∃ k : Nat, k ≤ ps.length ∧ i = .int .i64 k ∧ Hid (∀ j, j < k → isQ (nth ps j) = false) ∧ Hid (Below w.heap.size w wr)) (fun i _ => ps.length - (intOf i).toNat)
  case atStart => exact ⟨0, Nat.zero_le _, rfl, (fun j hj => by omega : ∀ j, j < 0 → _), Below.refl _ _⟩
  case round =>
    obtain ⟨k, hk, rfl, hall, hbl⟩ := hrel
    by_cases hlt : k < ps.length
    · obtain ⟨a', c', e', hcs⟩ := HR.out.below hbl.out
      injection e' with e1 _ e2
      subst e1 e2
      rcases hcs with h | ⟨g, o, rfl, hlc, hcell⟩
      · rw [h] at hlt; simp at hlt
      obtain ⟨p0, p1, p2⟩ := hcell k hlt
      clear hcell
      have HN : Hid (Calls Tryd.prog 61 #[.agg #[.string (str (nth ps k).1), .string (str (nth ps k).2.1), .bool (nth ps k).2.2]] wr fun e w' => e = .returned (.bool (isQ (nth ps k))) ∧ Below wr.heap.size wr w') :=
        isQ_any _ (HM.out.at k hlt).1 wr
      have HT : isQ (nth ps k) = true → Hid (idxB isQ ps = k) := fun h => idxB_at hlt h hall.out
      have HF : isQ (nth ps k) = false → Hid (∀ j, j < k + 1 → isQ (nth ps j) = false) := fun h j hj => by
        by_cases hjk : j = k
        · subst hjk; exact h
        · exact hall.out j (by omega)
      generalize str (nth ps k).1 = X at p0 HN
      generalize str (nth ps k).2.1 = Y at p1 HN
      generalize isQ (nth ps k) = b at HN HT HF
      generalize (nth ps k).2.2 = Z at p2 HN
      cases b with
      | true =>
        have HT2 := HT rfl
        clear HT HF
        go_wp2_with fail
        refine HN.out.mono ?_
        rintro e w2 ⟨rfl, hb2⟩
        have HB2 : Hid (Below w.heap.size w w2) := bel_trans hbl.out hb2
        clear hb2
        go_wp2
        go_ret
        exact ⟨ret_int HT2.out.symm, HB2.out⟩
      | false =>
        have HF2 := HF rfl
        clear HT HF
        go_wp2_with fail
        refine HN.out.mono ?_
        rintro e w2 ⟨rfl, hb2⟩
        have HB2 : Hid (Below w.heap.size w w2) := bel_trans hbl.out hb2
        clear hb2
        go_wp2
        go_roundw
        case rel => exact ⟨k + 1, by omega, by go_num, HF2, HB2⟩
        case measure => simp [intOf]; omega
    · have HE : Hid (idxB isQ ps = -1) := idxB_none (fun j hj => hall.out j (by omega))
      go_wp2
      go_ret
      exact ⟨ret_int HE.out.symm, hbl.out⟩

end Ac
end Go.Proofs.YtepidekmnkempaaDoor

/-
  Parameters: how long they are; names turned to small letters in their place.
-/
set_option linter.unusedVariables false
set_option linter.unusedSimpArgs false
namespace Go.Proofs.YtepidekmnkempaaDoor
open Go.RowKit Go.Shelf
namespace Ac
open Oc Tg

theorem pstep_each (r : List UInt8) (x : Nat × List Prm) (h : pstep r = some (some x)) : ∀ p ∈ x.2, p.1.length ≤ r.length ∧ p.2.1.length ≤ r.length := by
  unfold pstep at h
  split at h
  · obtain ⟨y, hy, e⟩ := Option.map_eq_some_iff.1 h
    have hl := rp_le _ y hy
    rw [List.length_drop, List.length_drop] at hl
    cases e
    intro p hp
    split at hp
    · cases hp
    · simp at hp
      subst hp
      omega
  · cases h
theorem pgo_each : ∀ (f : Nat) (r : List UInt8) (y : List Prm × Nat), pgo f r = some y → y.2 ≤ r.length ∧ EachP r.length y.1
  | 0, r, y, h => by cases h
  | f + 1, r, y, h => by
    rw [pgo] at h
    cases hp : pstep r with
    | none => rw [hp] at h; cases h
    | some o =>
      rw [hp] at h
      cases o with
      | none => cases h; exact ⟨Nat.zero_le _, fun p hp => by cases hp⟩
      | some x =>
        have hx := pstep_le r x hp
        have he := pstep_each r x hp
        obtain ⟨z, hz, e⟩ := Option.map_eq_some_iff.1 h
        have ih := pgo_each f _ z hz
        rw [List.length_drop] at ih
        cases e
        refine ⟨by show x.1 + z.2 ≤ _; omega, fun p hp => ?_⟩
        rcases List.mem_append.1 hp with h | h
        · exact he p h
        · have := ih.2 p h
          omega
theorem params_bd (l : List UInt8) : 0 ≤ (paramsR l).2.1 ∧ (paramsR l).2.1 ≤ l.length ∧ EachP l.length (paramsR l).1 ∧ (paramsR l).1.length ≤ l.length := by
  refine ⟨?_, ?_, ?_, paramsR_short l⟩
  all_goals
    unfold paramsR
    cases h : prm l with
    | none => first | (exact Int.le_refl _) | (simp; done) | (intro p hp; cases hp)
    | some y =>
      have := pgo_each _ _ _ h
      first | (simp; done) | (simp; omega) | exact this.2
theorem lower_len (l : List UInt8) : (lower l).length = l.length := by unfold lower; simp
theorem EachP.low {M : Nat} {l : List Prm} (h : EachP M l) : EachP M (l.map lowP) := by
  intro p hp
  obtain ⟨q, hq, rfl⟩ := List.mem_map.1 hp
  have := h q hq
  unfold lowP
  rw [lower_len]
  exact this
theorem EachP.mono {M N : Nat} {l : List Prm} (h : EachP M l) (hN : M ≤ N) : EachP N l := fun p hp => by have := h p hp; omega

/-- The first k names turned. -/
def lowK (k : Nat) (ps : List Prm) : List Prm := (ps.take k).map lowP ++ ps.drop k
theorem lowK_zero (ps : List Prm) : lowK 0 ps = ps := by simp [lowK]
theorem lowK_all (ps : List Prm) : lowK ps.length ps = ps.map lowP := by simp [lowK]
theorem lowK_len (k : Nat) (ps : List Prm) : (lowK k ps).length = ps.length := by simp [lowK]; omega
theorem lowK_at (k : Nat) (ps : List Prm) (hk : k < ps.length) : nth (lowK k ps) k = nth ps k := by
  unfold nth lowK
  rw [List.getD_eq_getElem?_getD, List.getD_eq_getElem?_getD, List.getElem?_append_right (by simp; omega), List.getElem?_drop]
  congr 2
  simp
  omega
theorem lowK_set (k : Nat) (ps : List Prm) (hk : k < ps.length) : (lowK k ps).set k (lower (nth ps k).1, (nth ps k).2.1, (nth ps k).2.2) = lowK (k + 1) ps := by
  have e : ps.drop k = nth ps k :: ps.drop (k + 1) := by
    rw [List.drop_eq_getElem_cons hk]
    unfold nth
    rw [List.getD_eq_getElem?_getD, List.getElem?_eq_getElem hk]
    rfl
  have e2 : ps.take (k + 1) = ps.take k ++ [nth ps k] := by
    rw [List.take_succ_eq_append_getElem hk]
    unfold nth
    rw [List.getD_eq_getElem?_getD, List.getElem?_eq_getElem hk]
    rfl
  unfold lowK
  rw [e2, List.map_append, e, List.set_append_right _ _ (by simp; omega)]
  have : k - (List.map lowP (List.take k ps)).length = 0 := by simp; omega
  rw [this]
  simp [lowP]
theorem encP_set : ∀ (t : List Prm) (k : Nat) (n : List UInt8), k < t.length → encP (t.set k (n, (nth t k).2.1, (nth t k).2.2)) = (encP t).set (k * 3) (.string (str n))
  | [], k, n, h => by simp at h
  | p :: t, 0, n, _ => rfl
  | p :: t, k + 1, n, h => by
    have ih := encP_set t k n (by simpa using h)
    have en : nth (p :: t) (k + 1) = nth t k := by unfold nth; simp
    have e : ∀ u, encP (p :: u) = [.string (str p.1), .string (str p.2.1), .bool p.2.2] ++ encP u := fun u => rfl
    rw [List.set_cons_succ, en, e, ih, e, List.set_append_right _ _ (by simp; omega)]
    congr 2
    simp
    omega
theorem OwnP.mono {T B B' : Nat} {v : Value} {t : List Prm} {w : World} (h : OwnP T B v t w) (hB : B' ≤ B) : OwnP T B' v t w := by
  refine ⟨h.1, ?_⟩
  rcases h.2 with hn | ⟨g, cap, cur, rfl, hb, rest⟩
  · exact .inl hn
  · exact .inr ⟨g, cap, cur, rfl, by omega, rest⟩
theorem OwnP.setName {T B g n cap : Nat} {t : List Prm} {w : World} (h : OwnP T B (.slice (some ⟨g, 0, none⟩) n cap) t w) (k : Nat) (hk : k < t.length) (m : List UInt8) :
    OwnP T B (.slice (some ⟨g, 0, none⟩) n cap) (t.set k (m, (nth t k).2.1, (nth t k).2.2)) (w.setCell ⟨g, k * 3, none⟩ (.string (str m))) := by
  have hn : n = t.length := by
    obtain ⟨a, c, e, _⟩ := OwnP.rd h
    injection e with _ e2 _
  subst hn
  unfold OwnP at *
  rw [encP_set t k m hk, List.length_set]
  exact (World.ownsRow.stored h (k * 3) _).1

end Ac
end Go.Proofs.YtepidekmnkempaaDoor
