/- Several texts as one. -/
import Derived.Test.YtcelekfokbdmfaaGreatDoorMgB1
import Derived.Test.YtcelekfokbdmfaaGreatDoorMgU
import Derived.Test.YtcelekfokbdmfaaGreatDoorMgX
import Derived.Test.YtcelekfokbdmfaaGreatDoorMgR
import Derived.Test.YtcelekfokbdmfaaGreatDoorMgL
/-
  chunk.Encode.
-/
set_option linter.unusedVariables false
set_option linter.unusedSimpArgs false
set_option maxRecDepth 100000
namespace Go.Proofs.YtcelekfokbdmfaaGreatDoor
open Go.RowKit Go.Shelf
namespace Ck
open Oc Tg _root_.Go.Proofs.YtcelekfokbdmfaaGreatDoor.Fd

def nthI (l : List Int) (j : Nat) : Int := l.getD j 0
theorem nthI_some (l : List Int) (j : Nat) (h : j < l.length) : l[j]? = some (nthI l j) := by
  unfold nthI
  rw [List.getD_eq_getElem?_getD, List.getElem?_eq_getElem h]
  rfl
/-- The first of them that is below 1. -/
def lowI1 (l : List Int) : Int := match l.findIdx? (fun x => decide (x < 1)) with | some k => (k : Int) | none => -1
theorem lowI1_at {l : List Int} {k : Nat} (hk : k < l.length) (h : nthI l k < 1) (hno : ∀ j, j < k → ¬ nthI l j < 1) : lowI1 l = k := by
  have : l.findIdx? (fun x => decide (x < 1)) = some k := by
    rw [List.findIdx?_eq_some_iff_getElem]
    have e : ∀ j (hj : j < l.length), l[j] = nthI l j := fun j hj => by unfold nthI; rw [List.getD_eq_getElem?_getD, List.getElem?_eq_getElem hj]; rfl
    refine ⟨hk, by rw [e k hk]; simpa using h, fun j hj => by rw [e j (by omega)]; simpa using hno j hj⟩
  unfold lowI1
  rw [this]
theorem lowI1_no {l : List Int} (h : ∀ j, j < l.length → ¬ nthI l j < 1) : lowI1 l = -1 := by
  have : l.findIdx? (fun x => decide (x < 1)) = none := by
    rw [List.findIdx?_eq_none_iff]
    intro x hx
    obtain ⟨j, hj, rfl⟩ := List.mem_iff_getElem.1 hx
    have := h j hj
    unfold nthI at this
    rw [List.getD_eq_getElem?_getD, List.getElem?_eq_getElem hj] at this
    simpa using this
  unfold lowI1
  rw [this]
theorem lowI1_iff (l : List Int) : lowI1 l = -1 ∨ 0 ≤ lowI1 l := by
  unfold lowI1
  split
  · right; omega
  · left; rfl

set_option maxHeartbeats 1000000 in
theorem Encode1_any (x : Int) (w : World) : Calls Tryz.prog 72 #[.int .i64 x] w fun e w' => e = .returned (.bool (decide (x < 1))) ∧ w' = w := by
  go_enter Tryz.func72, Tryz.ntmps72
  go_wp2
  go_ret
  exact ⟨rfl, rfl⟩

set_option maxHeartbeats 1000000 in
theorem IndexFunc_i (v : Value) (l : List Int) (hl : l.length ≤ 4294967296) (w : World) (hr : RdI w v l) :
    Calls Tryz.prog 103 #[v, .func (.func 72) #[] #[]] w fun e w' => e = .returned (.int .i64 (lowI1 l)) ∧ w' = w := by
  obtain ⟨a, c, rfl, hc, hbd, hr⟩ := hr
  have HR : Hid (l = [] ∨ ∃ g o, a = some ⟨g, o, none⟩ ∧ ∀ j x, l[j]? = some x → w.cell? ⟨g, o + j, none⟩ = some (.int .i64 x)) := hr
  clear hr hbd
  go_enter Tryz.func103, Tryz.ntmps103
  go_wp2
  go_loopw [8] (fun i wr => ∃ k : Nat, k ≤ l.length ∧ i = .int .i64 k ∧ Hid (∀ j, j < k → 1 ≤ nthI l j) ∧ w = wr) (fun i _ => l.length - (intOf i).toNat)
  case atStart => exact ⟨0, Nat.zero_le _, rfl, (fun j hj => by omega : ∀ j, j < 0 → _), rfl⟩
  case round =>
    obtain ⟨k, hk, rfl, hall, rfl⟩ := hrel
    by_cases hlt : k < l.length
    · rcases HR.out with h | ⟨g, o, rfl, hcell⟩
      · rw [h] at hlt; simp at hlt
      have p0 := hcell k _ (nthI_some l k hlt)
      clear hcell
      by_cases hx : nthI l k < 1
      · have HT : Hid (lowI1 l = k) := lowI1_at hlt hx (fun j hj => by have := hall.out j hj; omega)
        have HN : Hid (∀ W, Calls Tryz.prog 72 #[.int .i64 (nthI l k)] W fun e w' => e = .returned (.bool true) ∧ w' = W) := fun W => by
          have := Encode1_any (nthI l k) W
          rw [show decide (nthI l k < 1) = true by simp [hx]] at this
          exact this
        clear hx
        generalize nthI l k = X at *
        go_wp2_with fail
        refine (HN.out _).mono ?_
        rintro e w2 ⟨rfl, hw⟩
        rw [hw]
        clear hw
        go_wp2
        go_ret
        exact ⟨ret_int HT.out.symm, rfl⟩
      · have HF : Hid (∀ j, j < k + 1 → 1 ≤ nthI l j) := (fun j hj => by
          by_cases hjk : j = k
          · subst hjk; omega
          · exact hall.out j (by omega) : ∀ j, j < k + 1 → 1 ≤ nthI l j)
        have HN : Hid (∀ W, Calls Tryz.prog 72 #[.int .i64 (nthI l k)] W fun e w' => e = .returned (.bool false) ∧ w' = W) := fun W => by
          have := Encode1_any (nthI l k) W
          rw [show decide (nthI l k < 1) = false by simp; omega] at this
          exact this
        clear hx
        generalize nthI l k = X at p0 HN
        go_wp2_with fail
        refine (HN.out _).mono ?_
        rintro e w2 ⟨rfl, hw⟩
        rw [hw]
        clear hw
        go_wp2
        go_roundw
        case rel => exact ⟨k + 1, by omega, by go_num, HF, trivial⟩
        case measure => simp [intOf]; omega
    · have HT : Hid (lowI1 l = -1) := lowI1_no (fun j hj => by have := hall.out j (by omega); omega)
      go_wp2
      go_ret
      exact ⟨ret_int HT.out.symm, rfl⟩
set_option maxHeartbeats 1000000 in
theorem ContainsFunc_i (v : Value) (l : List Int) (hl : l.length ≤ 4294967296) (w : World) (hr : RdI w v l) :
    Calls Tryz.prog 71 #[v, .func (.func 72) #[] #[]] w fun e w' => e = .returned (.bool (decide (0 ≤ lowI1 l))) ∧ w' = w := by
  have HI : Hid (Calls Tryz.prog 103 #[v, .func (.func 72) #[] #[]] w fun e w' => e = .returned (.int .i64 (lowI1 l)) ∧ w' = w) := IndexFunc_i v l hl w hr
  obtain ⟨a, c, rfl, _⟩ := hr
  go_enter Tryz.func71, Tryz.ntmps71
  go_wp2_with fail
  refine HI.out.mono ?_
  rintro e w2 ⟨rfl, hw⟩
  rw [hw]
  clear hw
  go_wp2
  go_ret
  exact ⟨rfl, rfl⟩

/-- A body in chunks of these sizes. -/
def cutC : List Int → List UInt8 → List UInt8
  | [], b => chunkC b
  | n :: ns, b => chunkC (b.take n.toNat) ++ cutC ns (b.drop n.toNat)
/-- What Encode answers. -/
def encR (body : List UInt8) (sizes : List Int) (t : List Fl) : List UInt8 × Int :=
  if 0 ≤ lowI1 sizes then ([], 1) else if t.all okT then (cutC sizes body ++ lineC 0 ++ (trailG t ++ [13, 10]), 0) else ([], 101)
theorem chunkC_len (t : List UInt8) (h : t.length ≤ 1099511627776) : (chunkC t).length ≤ t.length + 15 := by
  unfold chunkC
  split
  · simp
  · have := hexd_len 10 t.length (Nat.lt_of_le_of_lt h (by decide))
    unfold lineC
    simp only [List.length_append, List.length_cons, List.length_nil]
    omega
theorem cutC_drop (l : List Int) (k : Nat) (h : k < l.length) (b : List UInt8) : cutC (l.drop k) b = chunkC (b.take (nthI l k).toNat) ++ cutC (l.drop (k + 1)) (b.drop (nthI l k).toNat) := by
  have : l.drop k = nthI l k :: l.drop (k + 1) := by
    rw [List.drop_eq_getElem_cons h]
    unfold nthI
    rw [List.getD_eq_getElem?_getD, List.getElem?_eq_getElem h]
    rfl
  rw [this]
  rfl

theorem nthI_mem (l : List Int) (j : Nat) (h : j < l.length) : nthI l j ∈ l := by
  unfold nthI
  rw [List.getD_eq_getElem?_getD, List.getElem?_eq_getElem h]
  exact List.getElem_mem h
theorem lowI1_hit {l : List Int} {j : Nat} (hj : j < l.length) (h : nthI l j < 1) : 0 ≤ lowI1 l := by
  unfold lowI1
  cases hf : l.findIdx? (fun x => decide (x < 1)) with
  | some k => simp
  | none =>
    rw [List.findIdx?_eq_none_iff] at hf
    have := hf _ (nthI_mem l j hj)
    simp at this
    omega
theorem trailG_len : ∀ t : List Fl, (trailG t).length ≤ 2 * sumF t
  | [] => by simp [trailG]
  | p :: t => by
    have ih := trailG_len t
    have h1 := lineP_len p
    have e : trailG (p :: t) = lineP p ++ [13, 10] ++ trailG t := by simp [trailG]
    have e2 : sumF (p :: t) = szF p + sumF t := by simp [sumF]
    have h3 : 3 ≤ szF p := by unfold szF; omega
    rw [e, e2, List.length_append, List.length_append]
    simp only [List.length_cons, List.length_nil]
    omega

set_option maxHeartbeats 4000000 in
theorem Encode_any (body : ByteArray) (hb : body.size ≤ 1048576) (vs : Value) (l : List Int) (hl : l.length ≤ 1048576) (vt : Value) (t : List Fl) (hs : sumF t ≤ 1048576) (w : World) (hi : RdI w vs l) (hr : RdF vt t w) (tab : Tab w) (td : Deb w) :
    Calls Tryz.prog 43 #[.string body, vs, vt] w fun e w' => e = .returned (.tuple #[.string (str (encR body.data.toList l t).1), .int .i64 (encR body.data.toList l t).2]) ∧ Below w.heap.size w w' := by
  have HC : Hid (Calls Tryz.prog 71 #[vs, .func (.func 72) #[] #[]] w fun e w' => e = .returned (.bool (decide (0 ≤ lowI1 l))) ∧ w' = w) := ContainsFunc_i vs l (by omega) w hi
  have HPT : Hid (Calls Tryz.prog 73 #[vt] w fun e w' => e = .returned (.tuple #[.string (str (trailP t).1), .int .i64 (trailP t).2]) ∧ Below w.heap.size w w') := printTrailers_any vt t hs w hr tab
  have HT : Hid (Tab w) := tab
  have HD : Hid (Deb w) := td
  have HI : Hid (RdI w vs l) := hi
  obtain ⟨a, c, rfl, hlc, hbd, _⟩ := hi
  obtain ⟨a2, c2, rfl, _⟩ := hr
  have HBd : Hid (∀ x ∈ l, -9223372036854775808 ≤ x ∧ x ≤ 9223372036854775807) := hbd
  clear tab td hbd
  have hsl : (trailG t).length ≤ 2 * sumF t := trailG_len t
  by_cases h0 : 0 ≤ lowI1 l
  · have HE : Hid (encR body.data.toList l t = ([], 1)) := (by unfold encR; rw [if_pos h0] : _ = _)
    have hd : decide (0 ≤ lowI1 l) = true := by simp [h0]
    rw [hd] at HC
    clear h0 hd
    go_enter Tryz.func43, Tryz.ntmps43
    go_wp2_with fail
    refine HC.out.mono ?_
    rintro e w2 ⟨rfl, hw⟩
    rw [hw]
    clear hw
    go_wp2
    go_ret2
    rw [HE.out]
    exact ⟨rfl, Below.refl _ _⟩
  have hd : decide (0 ≤ lowI1 l) = false := by simp; omega
  rw [hd] at HC
  have HE : Hid (encR body.data.toList l t = if t.all okT then (cutC l body.data.toList ++ lineC 0 ++ (trailG t ++ [13, 10]), 0) else ([], 101)) := (by unfold encR; rw [if_neg h0] : _ = _)
  have HPos : Hid (∀ j, j < l.length → 1 ≤ nthI l j) := (fun j hj => by
    by_cases h : nthI l j < 1
    · exact absurd (lowI1_hit hj h) h0
    · omega : ∀ j, j < l.length → 1 ≤ nthI l j)
  clear h0 hd
  cases hall : t.all okT with
  | false =>
    have HTP : Hid (trailP t = ([], 101)) := (by unfold trailP; rw [hall]; rfl : _ = _)
    rw [hall] at HE
    rw [HTP.out] at HPT
    go_enter Tryz.func43, Tryz.ntmps43
    go_wp2_with fail
    refine HC.out.mono ?_
    rintro e w2 ⟨rfl, hw⟩
    rw [hw]
    clear hw
    go_wp2_with fail
    refine HPT.out.mono ?_
    rintro e w3 ⟨rfl, hb3⟩
    have HB3 : Hid (Below w.heap.size w w3) := hb3
    clear hb3
    go_wp2
    go_ret2
    rw [HE.out]
    exact ⟨rfl, HB3.out⟩
  | true =>
    have HTP : Hid (trailP t = (trailG t ++ [13, 10], 0)) := (by unfold trailP; rw [hall]; rfl : _ = _)
    rw [hall, if_pos rfl] at HE
    rw [HTP.out] at HPT
    dsimp only at HPT
    have hzs : (str (trailG t ++ [13, 10])).size ≤ 3000000 := by rw [str_size, List.length_append]; simp; omega
    have HCS : Hid (Lib.strCells (str (trailG t ++ [13, 10])) = Lib.byteCells (trailG t ++ [13, 10])) := cells_str _
    generalize str (trailG t ++ [13, 10]) = SEC at *
    go_enter Tryz.func43, Tryz.ntmps43
    go_wp2_with fail
    refine HC.out.mono ?_
    rintro e w2 ⟨rfl, hw⟩
    rw [hw]
    clear hw
    go_wp2_with fail
    refine HPT.out.mono ?_
    rintro e w3 ⟨rfl, hb3⟩
    have HB3 : Hid (Below w.heap.size w w3) := hb3
    have HBD : Hid (Bd (w3.heap.size + 1) w3.heap.size (Lib.byteCells []) (w3.alloc (.cells #[.pointer none, .slice none 0 0] 103))) := Bd.new w3 (w3.heap.size + 1)
    have hs3 := hb3.size
    have HB4 : Hid (Below w.heap.size w (w3.alloc (.cells #[.pointer none, .slice none 0 0] 103))) := hb3.alloc hs3 _
    clear hb3
    go_wp2
    go_loopw [0, 25] (fun bv i wr => ∃ (k : Nat) (B : ByteArray) (acc : List UInt8), k ≤ l.length ∧ i = .int .i64 k ∧ bv = .string B ∧ B.size ≤ 1048576 ∧ Hid (cutC l body.data.toList = acc ++ cutC (l.drop k) B.data.toList) ∧ Hid (acc.length + B.size ≤ k * 15 + 1048576) ∧ Hid (Bd (w3.heap.size + 1) w3.heap.size (Lib.byteCells acc) wr) ∧ Hid (Below w.heap.size w wr) ∧ Hid (w3.heap.size + 1 ≤ wr.heap.size)) (fun _ i _ => l.length - (intOf i).toNat)
    case atStart => exact ⟨0, body, [], Nat.zero_le _, rfl, rfl, hb, (by simp : _ = _), (by simp; omega : _ ≤ _), HBD, HB4, (by simp : _ ≤ _)⟩
    case round =>
      obtain ⟨k, B, acc, hk, rfl, rfl, hBs, hst, hal, hB, hW, hS⟩ := hrel
      by_cases hlt : k < l.length
      · have hp := HPos.out k hlt
        have hmx := (HBd.out _ (nthI_mem l k hlt)).2
        obtain ⟨a', c', e', _, _, hcs⟩ := HI.out.below hW.out
        injection e' with e1 _ e2
        subst e1 e2
        rcases hcs with h | ⟨g, o, rfl, hcell⟩
        · rw [h] at hlt; simp at hlt
        have p0 := hcell k _ (nthI_some l k hlt)
        clear hcell
        have HST : Hid (cutC l body.data.toList = acc ++ chunkC (B.data.toList.take (nthI l k).toNat) ++ cutC (l.drop (k + 1)) (B.data.toList.drop (nthI l k).toNat)) := (by rw [hst.out, cutC_drop l k hlt, List.append_assoc] : _ = _)
        clear hst
        generalize nthI l k = X at *
        obtain ⟨m, hm⟩ : ∃ m : Nat, min X ((B.size : Nat) : Int) = (m : Int) := ⟨(min X ((B.size : Nat) : Int)).toNat, by omega⟩
        have hmle : m ≤ B.size := by omega
        have htk : B.data.toList.take X.toNat = (B.extract 0 m).data.toList := by
          rw [take_ext, str_list]
          by_cases hx : X ≤ ((B.size : Nat) : Int)
          · have : X.toNat = m := by omega
            rw [this]
          · rw [List.take_of_length_le (by rw [size_list]; omega), List.take_of_length_le (by rw [size_list]; omega)]
        have hdr : B.data.toList.drop X.toNat = (B.extract m B.size).data.toList := by
          rw [drop_ext]
          by_cases hx : X ≤ ((B.size : Nat) : Int)
          · have : X.toNat = m := by omega
            rw [this]
          · rw [List.drop_eq_nil_of_le (by rw [size_list]; omega), List.drop_eq_nil_of_le (by rw [size_list]; omega)]
        rw [htk, hdr] at HST
        clear htk hdr
        have hs1 : (B.extract 0 m).size = m := by rw [ByteArray.size_extract]; omega
        have hs2 : (B.extract m B.size).size = B.size - m := by rw [ByteArray.size_extract]; omega
        have hcl := chunkC_len (B.extract 0 m).data.toList (by rw [size_list]; omega)
        rw [size_list] at hcl
        have HTw : Hid (Tab wr) := HT.out.below hW.out (Nat.le_refl _)
        have HDw : Hid (Deb wr) := HD.out.below hW.out
        have HCL : Hid ((chunkC (B.extract 0 m).data.toList).length ≤ m + 15) := (by omega : _ ≤ _)
        have HS2 : Hid ((B.extract m B.size).size = B.size - m) := hs2
        clear hcl hs2
        have HWC : Hid (Calls Tryz.prog 74 #[.pointer (some ⟨w3.heap.size, 0, none⟩), .string (B.extract 0 m)] wr fun e w' => e = .returned (.tuple #[]) ∧ Bd (w3.heap.size + 1) w3.heap.size (Lib.byteCells (acc ++ chunkC (B.extract 0 m).data.toList)) w' ∧ Fr (w3.heap.size + 1) w3.heap.size wr w') := writeChunk_bd _ _ acc (B.extract 0 m) (by omega) wr hB.out (by have := hal.out; omega) hS.out HTw.out HDw.out
        go_wp2_with fail
        refine HWC.out.mono ?_
        rintro e w5 ⟨rfl, hB5, hF5⟩
        have HB5 : Hid (Bd (w3.heap.size + 1) w3.heap.size (Lib.byteCells (acc ++ chunkC (B.extract 0 m).data.toList)) w5) := hB5
        have HW5 : Hid (Below w.heap.size w w5) := hW.out.trans (hF5.below (by omega) (by omega))
        have HS5 : Hid (w3.heap.size + 1 ≤ w5.heap.size) := Nat.le_trans hS.out hF5.size
        clear hB5 hF5
        have HA5 : Hid ((acc ++ chunkC (B.extract 0 m).data.toList).length + (B.extract m B.size).size ≤ (k + 1) * 15 + 1048576) := by
          show _ ≤ _
          rw [List.length_append, HS2.out]
          have := hal.out
          have := HCL.out
          omega
        have hBs2 : (B.extract m B.size).size ≤ 1048576 := by rw [HS2.out]; omega
        go_wp2
        go_roundw
        case rel => exact ⟨k + 1, B.extract m B.size, acc ++ chunkC (B.extract 0 m).data.toList, by omega, by go_num, rfl, hBs2, HST, HA5, HB5, HW5, HS5⟩
        case measure => simp [intOf]; omega
      · have HST : Hid (cutC l body.data.toList = acc ++ chunkC B.data.toList) := (by rw [hst.out, List.drop_eq_nil_of_le (by omega)]; rfl : _ = _)
        clear hst
        have hcl := chunkC_len B.data.toList (by rw [size_list]; omega)
        rw [size_list] at hcl
        have HTw : Hid (Tab wr) := HT.out.below hW.out (Nat.le_refl _)
        have HDw : Hid (Deb wr) := HD.out.below hW.out
        have HCL : Hid ((chunkC B.data.toList).length ≤ B.size + 15) := hcl
        clear hcl
        go_wp2_with fail
        refine (writeChunk_bd _ _ acc B (by omega) wr hB.out (by have := hal.out; omega) hS.out HTw.out HDw.out).mono ?_
        rintro e w5 ⟨rfl, hB5, hF5⟩
        have HB5 : Hid (Bd (w3.heap.size + 1) w3.heap.size (Lib.byteCells (acc ++ chunkC B.data.toList)) w5) := hB5
        have HW5 : Hid (Below w.heap.size w w5) := hW.out.trans (hF5.below (by omega) (by omega))
        have HS5 : Hid (w3.heap.size + 1 ≤ w5.heap.size) := Nat.le_trans hS.out hF5.size
        have HT5 : Hid (Tab w5) := HT.out.below HW5.out (Nat.le_refl _)
        have HD5 : Hid (Deb w5) := HD.out.below HW5.out
        clear hB5 hF5 HTw HDw
        have HA5 : Hid ((acc ++ chunkC B.data.toList).length ≤ 100000000) := by
          show _ ≤ _
          rw [List.length_append]
          have := hal.out
          have := HCL.out
          omega
        rw [← HST.out] at HB5 HA5
        generalize cutC l body.data.toList = CUT at *
        go_wp2_with fail
        refine (writeSize_bd _ _ CUT 0 (by omega) w5 HB5.out (by have := HA5.out; omega) HS5.out HT5.out HD5.out).mono ?_
        rintro e w6 ⟨rfl, hB6, hF6⟩
        have HB6 : Hid (Bd (w3.heap.size + 1) w3.heap.size (Lib.byteCells (CUT ++ lineC 0)) w6) := hB6
        have HW6 : Hid (Below w.heap.size w w6) := HW5.out.trans (hF6.below (by omega) (by omega))
        have HS6 : Hid (w3.heap.size + 1 ≤ w6.heap.size) := Nat.le_trans HS5.out hF6.size
        clear hB6 hF6
        go_wp2_with fail
        refine (WriteString_bd _ _ _ SEC w6 HB6.out (by rw [Fd.cells_len, List.length_append, show (lineC 0).length = 3 by decide +kernel]; have := HA5.out; omega) HS6.out).mono ?_
        rintro e w7 ⟨rfl, hB7, hF7⟩
        have HB7 : Hid (Bd (w3.heap.size + 1) w3.heap.size (Lib.byteCells (CUT ++ lineC 0 ++ (trailG t ++ [13, 10]))) w7) := by
          show Bd _ _ _ _
          rw [cells_app (CUT ++ lineC 0), ← HCS.out]
          exact hB7
        have HW7 : Hid (Below w.heap.size w w7) := HW6.out.trans (hF7.below (by omega) (by omega))
        have HS7 : Hid (w3.heap.size + 1 ≤ w7.heap.size) := Nat.le_trans HS6.out hF7.size
        clear hB7 hF7
        go_wp2_with fail
        refine (String_bd _ _ _ _ HB7.out HS7.out).mono ?_
        rintro e w8 ⟨rfl, hb8, _⟩
        have HW8 : Hid (Below w.heap.size w w8) := HW7.out.trans (hb8.mono (by omega))
        clear hb8
        go_wp2
        go_ret2
        exact ⟨by rw [HE.out, List.append_assoc]; rfl, HW8.out⟩

end Ck
end Go.Proofs.YtcelekfokbdmfaaGreatDoor

/-
  A text read line by line, and byte by byte: plain.
-/
set_option linter.unusedVariables false
set_option linter.unusedSimpArgs false
set_option maxRecDepth 100000
namespace Go.Proofs.YtcelekfokbdmfaaGreatDoor
open Go.RowKit Go.Shelf
namespace Ck
open Oc Tg _root_.Go.Proofs.YtcelekfokbdmfaaGreatDoor.Fd

theorem dropG (l : List UInt8) (a j : Nat) : (l.drop a).getD j 0 = l.getD (a + j) 0 := by
  rw [List.getD_eq_getElem?_getD, List.getD_eq_getElem?_getD, List.getElem?_drop]
def noLf (l : List UInt8) : Prop := ∀ c ∈ l, c ≠ 10
def lineS (s : DS) (l : List UInt8) : DS := { s with line := s.line ++ l }
theorem eat_put0 : ∀ (l r : List UInt8) (s : DS), s.mode = 0 → noLf l → s.line.length + l.length < 256 → eat s (l ++ r) = (l.length + (eat (lineS s l) r).1, (eat (lineS s l) r).2)
  | [], r, s, hm, hn, hl => by simp [lineS]
  | c :: l, r, s, hm, hn, hl => by
    have hc : c ≠ 10 := hn c (by simp)
    simp only [List.length_cons] at hl
    have hb : bstep s c = put s c := by
      unfold bstep; rw [hm]; show inSize s c = _
      unfold inSize; rw [if_neg hc, if_neg (by omega)]
    rw [List.cons_append, eat_cons (by omega), hb, eat_put0 l r (put s c) hm (fun d hd => hn d (by simp [hd])) (by simp [put]; omega)]
    have e : lineS (put s c) l = lineS s (c :: l) := by simp [lineS, put]
    rw [e]
    simp only [List.length_cons, Prod.mk.injEq, and_true]
    omega
/-- A size line that has no end in time. -/
theorem eat_long0 (l r : List UInt8) (s : DS) (hm : s.mode = 0) (hn : noLf l) (h0 : s.line = []) (hl : l.length = 256) : eat s (l ++ r) = (256, fin s 100) := by
  obtain ⟨a, c, rfl⟩ : ∃ a c, l = a ++ [c] := by
    rcases List.eq_nil_or_concat l with h | ⟨a, c, h⟩
    · subst h; simp at hl
    · exact ⟨a, c, by simpa using h⟩
  simp only [List.length_append, List.length_cons, List.length_nil] at hl
  have hc : c ≠ 10 := hn c (by simp)
  rw [List.append_assoc, eat_put0 a _ s hm (fun d hd => hn d (by simp [hd])) (by rw [h0]; simp; omega)]
  have hm' : (lineS s a).mode = 0 := hm
  have hb : bstep (lineS s a) c = fin s 100 := by
    unfold bstep; rw [hm']; show inSize _ c = _
    unfold inSize; rw [if_neg hc, if_pos (by simp [lineS, h0]; omega)]
    rfl
  rw [List.cons_append, List.nil_append, eat_cons (by omega), hb, eat_over (by rfl)]
  simp only [Prod.mk.injEq, and_true]
  omega
/-- A size line that has not ended. -/
theorem eat_open0 (l : List UInt8) (s : DS) (hm : s.mode = 0) (hn : noLf l) (h0 : s.line = []) (hl : l.length < 256) : eat s l = (l.length, lineS s l) := by
  have h := eat_put0 l [] s hm hn (by rw [h0]; simpa using hl)
  rw [List.append_nil, eat_nil] at h
  simpa using h
/-- A size line that ends. -/
theorem eat_line0 (l r : List UInt8) (s : DS) (hm : s.mode = 0) (hn : noLf l) (h0 : s.line = []) (hl : l.length < 256) :
    eat s (l ++ 10 :: r) = (l.length + 1 + (eat (endSize (lineS s (l ++ [10]))) r).1, (eat (endSize (lineS s (l ++ [10]))) r).2) := by
  rw [eat_put0 l _ s hm hn (by rw [h0]; simpa using hl)]
  have hm' : (lineS s l).mode = 0 := hm
  have hb : bstep (lineS s l) 10 = endSize (lineS s (l ++ [10])) := by
    unfold bstep; rw [hm']; show inSize _ _ = _
    unfold inSize; rw [if_pos rfl]
    simp [lineS, put]
  rw [eat_cons (by omega), hb]
  simp only [Prod.mk.injEq, and_true]
  omega
theorem suffix_yes (k : List UInt8) : Lib.hasSuffix (k ++ [13] ++ [10]) crlf = true ∧ Lib.trimSuffix (k ++ [13] ++ [10]) crlf = k := by
  have h : Lib.hasSuffix (k ++ [13] ++ [10]) crlf = true := by
    unfold Lib.hasSuffix crlf
    rw [List.isSuffixOf_iff_suffix]
    exact ⟨k, by simp⟩
  refine ⟨h, ?_⟩
  unfold Lib.trimSuffix
  rw [if_pos h]
  simp [crlf]
theorem suffix_no (l : List UInt8) (h : ∀ k, l ≠ k ++ [13]) : Lib.hasSuffix (l ++ [10]) crlf = false := by
  unfold Lib.hasSuffix crlf
  rw [Bool.eq_false_iff]
  intro e
  rw [List.isSuffixOf_iff_suffix] at e
  obtain ⟨k, hk⟩ := e
  have : (k ++ [13]) ++ [10] = l ++ [10] := by rw [← hk]; simp
  exact h k (List.append_cancel_right this).symm
/-- Whether a line stands rightly: its bytes ahead of the last one end with a return. -/
theorem line_case (l : List UInt8) : (∃ k, l = k ++ [13]) ∨ ((∀ k, l ≠ k ++ [13]) ∧ (l = [] ∨ l.getD (l.length - 1) 0 ≠ 13)) := by
  rcases List.eq_nil_or_concat l with h | ⟨a, c, h⟩
  · subst h; right; exact ⟨fun k e => by simp at e, .inl rfl⟩
  · have h' : l = a ++ [c] := by simpa using h
    by_cases hc : c = 13
    · left; exact ⟨a, by rw [h', hc]⟩
    · right
      refine ⟨fun k e => ?_, .inr ?_⟩
      · rw [h'] at e
        have := (List.append_inj' e rfl).2
        simp at this
        exact hc this
      · rw [h']
        simp [List.getD]
        exact hc

/-- A decoder that has all but a line behind it: b the bytes of chunks so far. -/
def stS (most room fields : Int) (b : List UInt8) : DS := ⟨0, false, 0, most - b.length, room, fields, 0, 0, [], b, []⟩
theorem stS_new (most room fields : Int) : stS most room fields [] = new most room fields := by simp [stS, new]
theorem endSize_bad {s : DS} {l : List UInt8} (h0 : s.line = []) (h : ∀ k, l ≠ k ++ [13]) : endSize (lineS s (l ++ [10])) = fin s 100 := by
  unfold endSize
  rw [if_pos (by unfold right lineS; rw [h0]; exact suffix_no l h)]
  rfl
theorem endSize_yes {s : DS} {k : List UInt8} (h0 : s.line = []) : endSize (lineS s (k ++ [13] ++ [10])) = if (sizeR k).2.2 ≠ 0 then fin s (sizeR k).2.2 else if s.most < (sizeR k).1 then fin s 102 else if (sizeR k).1 = 0 then { s with mode := 4 } else { s with most := s.most - (sizeR k).1, left := (sizeR k).1, mode := 1 } := by
  have e1 : right (lineS s (k ++ [13] ++ [10])) = true := by unfold right lineS; rw [h0]; exact (suffix_yes k).1
  have e2 : said (lineS s (k ++ [13] ++ [10])) = k := by unfold said lineS; rw [h0]; exact (suffix_yes k).2
  have e3 : bare (lineS s (k ++ [13] ++ [10])) = s := by unfold bare lineS; cases s; simp at h0; subst h0; rfl
  unfold endSize
  rw [if_neg (by rw [e1]; decide), e2, e3]
  rfl
/-- Chunks: bytes of one. -/
theorem inChunk_all {most room fields : Int} {b t : List UInt8} {n : Int} (hn : (t.length : Int) = n) :
    inChunk { (stS most room fields b) with most := most - b.length - n, left := n, mode := 1 } t = { (stS most room fields (b ++ t)) with mode := 2 } := by
  unfold inChunk stS
  simp only [List.length_append]
  rw [if_pos (by omega)]
  congr 1 <;> omega
/-- Trailers: a line that has not ended, within the room. -/
theorem eat_put4 : ∀ (l r : List UInt8) (s : DS), s.mode = 4 → noLf l → (l.length : Int) ≤ s.room → eat s (l ++ r) = (l.length + (eat { (lineS s l) with room := s.room - l.length } r).1, (eat { (lineS s l) with room := s.room - l.length } r).2)
  | [], r, s, hm, hn, hl => by simp [lineS]
  | c :: l, r, s, hm, hn, hl => by
    have hc : c ≠ 10 := hn c (by simp)
    simp only [List.length_cons] at hl
    have hb0 : bstep s c = inTrailers s c := by unfold bstep; rw [hm]; rfl
    have hb : bstep s c = put { s with room := s.room - 1 } c := by
      rw [hb0]
      unfold inTrailers; rw [if_neg (by omega), if_neg hc]
    rw [List.cons_append, eat_cons (by omega), hb, eat_put4 l r (put { s with room := s.room - 1 } c) hm (fun d hd => hn d (by simp [hd])) (by simp [put]; omega)]
    have e : ({ (lineS (put { s with room := s.room - 1 } c) l) with room := (put { s with room := s.room - 1 } c).room - l.length } : DS) = { (lineS s (c :: l)) with room := s.room - (c :: l).length } := by
      simp [lineS, put]; omega
    rw [e]
    simp only [List.length_cons, Prod.mk.injEq, and_true]
    omega
/-- No room is left. -/
theorem eat_full4 (c : UInt8) (r : List UInt8) (s : DS) (hm : s.mode = 4) (h : s.room = 0) : eat s (c :: r) = (1, fin s 104) := by
  have hb : bstep s c = fin s 104 := by
    unfold bstep; rw [hm]; show inTrailers s c = _
    unfold inTrailers; rw [if_pos h]
  rw [eat_cons (by omega), hb, eat_over (by rfl)]
/-- A line of the trailer section that ends within the room. -/
theorem eat_line4 (l r : List UInt8) (s : DS) (hm : s.mode = 4) (hn : noLf l) (hl : (l.length : Int) < s.room) :
    eat s (l ++ 10 :: r) = (l.length + 1 + (eat (endTrailer { (lineS s (l ++ [10])) with room := s.room - l.length - 1 }) r).1, (eat (endTrailer { (lineS s (l ++ [10])) with room := s.room - l.length - 1 }) r).2) := by
  rw [eat_put4 l _ s hm hn (by omega)]
  have hb : bstep { (lineS s l) with room := s.room - l.length } 10 = endTrailer { (lineS s (l ++ [10])) with room := s.room - l.length - 1 } := by
    unfold bstep
    show (match s.mode with | 0 => _ | 1 => _ | 2 => _ | 3 => _ | 4 => _ | _ => _) = _
    rw [hm]; show inTrailers _ _ = _
    unfold inTrailers
    rw [if_neg (by show ¬ (s.room - l.length = 0); omega), if_pos rfl]
    simp [lineS, put]
  rw [eat_cons (by show s.mode ≠ 5; omega), hb]
  simp only [Prod.mk.injEq, and_true]
  omega
/-- A decoder at the start of a line of the trailer section: b the body, t the trailers so far, u bytes of the section gone. -/
def stT (most room fields : Int) (b : List UInt8) (t : List Fl) (u : Nat) : DS := ⟨4, false, 0, most - b.length, room - u, fields - t.length, 0, 0, [], b, t⟩
theorem stT_of (most room fields : Int) (b : List UInt8) : { (stS most room fields b) with mode := 4 } = stT most room fields b [] 0 := by simp [stT, stS]
theorem endTrailer_bad {s : DS} {l : List UInt8} {x : Int} (h0 : s.line = []) (h : ∀ k, l ≠ k ++ [13]) : endTrailer { (lineS s (l ++ [10])) with room := x } = fin { s with room := x } 101 := by
  unfold endTrailer
  rw [if_pos (by unfold right lineS; rw [h0]; exact suffix_no l h)]
  rfl
theorem endTrailer_yes {s : DS} {k : List UInt8} {x : Int} (h0 : s.line = []) : endTrailer { (lineS s (k ++ [13] ++ [10])) with room := x } = if k = [] then fin { s with room := x } 0 else if s.fields = 0 then fin { s with room := x } 104 else keep { s with room := x } k := by
  have e1 : right { (lineS s (k ++ [13] ++ [10])) with room := x } = true := by unfold right lineS; rw [h0]; exact (suffix_yes k).1
  have e2 : said { (lineS s (k ++ [13] ++ [10])) with room := x } = k := by unfold said lineS; rw [h0]; exact (suffix_yes k).2
  have e3 : bare { (lineS s (k ++ [13] ++ [10])) with room := x } = { s with room := x } := by unfold bare lineS; cases s; simp at h0; subst h0; rfl
  unfold endTrailer
  rw [if_neg (by rw [e1]; decide), e2, e3]
  rfl
def Sees (x : Nat × DS) (n : Nat) (e : Int) (d : Bool) (b : List UInt8) (t : List Fl) : Prop := x.1 = n ∧ x.2.err = e ∧ x.2.done = d ∧ x.2.body = b ∧ x.2.tr = t
theorem Sees.on {s0 s1 : DS} {L M : List UInt8} {p n : Nat} {e : Int} {d : Bool} {b : List UInt8} {t : List Fl} (h : eat s0 L = (p + (eat s1 M).1, (eat s1 M).2)) (hs : Sees (eat s1 M) n e d b t) : Sees (eat s0 L) (p + n) e d b t := by
  rw [h]
  exact ⟨by rw [hs.1], hs.2⟩
theorem eat_on {s0 s1 s2 : DS} {L M N : List UInt8} {p q : Nat} (h : eat s0 L = (p + (eat s1 M).1, (eat s1 M).2)) (hs : eat s1 M = (q + (eat s2 N).1, (eat s2 N).2)) : eat s0 L = (p + q + (eat s2 N).1, (eat s2 N).2) := by
  rw [h, hs, Nat.add_assoc]
theorem Sees.over {s : DS} (h : s.mode = 5) (r : List UInt8) : Sees (eat s r) 0 s.err s.done s.body s.tr := by
  rw [eat_over h]
  exact ⟨rfl, rfl, rfl, rfl, rfl⟩
theorem noLf_of {M : List UInt8} {k : Nat} (h : ∀ i, i < k → i < M.length → M.getD i 0 ≠ 10) : noLf (M.take k) := fun c hc => by
  obtain ⟨i, hi, rfl⟩ := List.mem_iff_getElem.1 hc
  rw [List.length_take] at hi
  have := h i (by omega) (by omega)
  rw [List.getD_eq_getElem?_getD, List.getElem?_eq_getElem (by omega)] at this
  simpa using this
theorem cut_lf {M : List UInt8} {i : Nat} (hi : i < M.length) (h10 : M.getD i 0 = 10) : M = M.take i ++ 10 :: M.drop (i + 1) := by
  rw [← h10]
  have e := List.drop_eq_getElem_cons hi
  rw [List.getD_eq_getElem?_getD, List.getElem?_eq_getElem hi]
  show M = M.take i ++ (M[i] :: M.drop (i + 1))
  rw [← e, List.take_append_drop]

/-- The state at a size line's start. -/
structure Fresh (s : DS) : Prop where
  line : s.line = []
  done : s.done = false
  err : s.err = 0
theorem open0_long {s : DS} {M : List UInt8} (hm : s.mode = 0) (hf : Fresh s) (hn : ∀ i, i < 256 → i < M.length → M.getD i 0 ≠ 10) (hl : 255 < M.length) : Sees (eat s M) 256 100 false s.body s.tr := by
  have h := eat_long0 (M.take 256) (M.drop 256) s hm (noLf_of hn) hf.line (by rw [List.length_take]; omega)
  rw [List.take_append_drop] at h
  rw [h]
  exact ⟨rfl, rfl, rfl, rfl, rfl⟩
theorem open0_short {s : DS} {M : List UInt8} (hm : s.mode = 0) (hf : Fresh s) (hn : ∀ i, i < 256 → i < M.length → M.getD i 0 ≠ 10) (hl : ¬ 255 < M.length) : Sees (eat s M) M.length 0 false s.body s.tr := by
  have h1 : noLf M := by
    have := noLf_of (M := M) (k := M.length) (fun i h1 h2 => hn i (by omega) h2)
    rwa [List.take_length] at this
  rw [eat_open0 M s hm h1 hf.line (by omega)]
  exact ⟨rfl, hf.err, hf.done, rfl, rfl⟩
theorem line0_bad {s : DS} {l r : List UInt8} (hm : s.mode = 0) (hf : Fresh s) (hn : noLf l) (hl : l.length < 256) (h : ∀ k, l ≠ k ++ [13]) : Sees (eat s (l ++ 10 :: r)) (l.length + 1) 100 false s.body s.tr := by
  rw [eat_line0 l r s hm hn hf.line hl, endSize_bad hf.line h, eat_over (by rfl)]
  exact ⟨rfl, rfl, rfl, rfl, rfl⟩
theorem line0_err {s : DS} {l k r : List UInt8} (hm : s.mode = 0) (hf : Fresh s) (hn : noLf l) (hl : l.length < 256) (h : l = k ++ [13]) (he : (sizeR k).2.2 ≠ 0) : Sees (eat s (l ++ 10 :: r)) (l.length + 1) (sizeR k).2.2 false s.body s.tr := by
  rw [eat_line0 l r s hm hn hf.line hl, h, endSize_yes hf.line, if_pos he, eat_over (by rfl)]
  refine ⟨rfl, rfl, ?_, rfl, rfl⟩
  simpa [fin] using he
theorem line0_much {s : DS} {l k r : List UInt8} (hm : s.mode = 0) (hf : Fresh s) (hn : noLf l) (hl : l.length < 256) (h : l = k ++ [13]) (he : (sizeR k).2.2 = 0) (hb : s.most < (sizeR k).1) : Sees (eat s (l ++ 10 :: r)) (l.length + 1) 102 false s.body s.tr := by
  rw [eat_line0 l r s hm hn hf.line hl, h, endSize_yes hf.line, if_neg (by rw [he]; decide), if_pos hb, eat_over (by rfl)]
  exact ⟨rfl, rfl, rfl, rfl, rfl⟩
theorem line0_last {s : DS} {l k r : List UInt8} (hm : s.mode = 0) (hf : Fresh s) (hn : noLf l) (hl : l.length < 256) (h : l = k ++ [13]) (he : (sizeR k).2.2 = 0) (hb : ¬ s.most < (sizeR k).1) (hz : (sizeR k).1 = 0) :
    eat s (l ++ 10 :: r) = (l.length + 1 + (eat { s with mode := 4 } r).1, (eat { s with mode := 4 } r).2) := by
  rw [eat_line0 l r s hm hn hf.line hl, h, endSize_yes hf.line, if_neg (by rw [he]; decide), if_neg hb, if_pos hz]
theorem line0_chunk {s : DS} {l k r : List UInt8} (hm : s.mode = 0) (hf : Fresh s) (hn : noLf l) (hl : l.length < 256) (h : l = k ++ [13]) (he : (sizeR k).2.2 = 0) (hb : ¬ s.most < (sizeR k).1) (hz : (sizeR k).1 ≠ 0) :
    eat s (l ++ 10 :: r) = (l.length + 1 + (eat { s with most := s.most - (sizeR k).1, left := (sizeR k).1, mode := 1 } r).1, (eat { s with most := s.most - (sizeR k).1, left := (sizeR k).1, mode := 1 } r).2) := by
  rw [eat_line0 l r s hm hn hf.line hl, h, endSize_yes hf.line, if_neg (by rw [he]; decide), if_neg hb, if_neg hz]
theorem eat_chunk' : ∀ (t r : List UInt8) (s : DS), s.mode = 1 → t ≠ [] → (t.length : Int) ≤ s.left → eat s (t ++ r) = (t.length + (eat (inChunk s t) r).1, (eat (inChunk s t) r).2)
  | [], r, s, hm, h0, hl => absurd rfl h0
  | [c], r, s, hm, h0, hl => by
    have hb : bstep s c = inChunk s [c] := by unfold bstep; rw [hm]; rfl
    rw [List.cons_append, List.nil_append, eat_cons (by omega), hb]
    simp only [List.length_cons, List.length_nil, Prod.mk.injEq, and_true]
    omega
  | c :: d :: t, r, s, hm, h0, hl => by
    have hb : bstep s c = inChunk s [c] := by unfold bstep; rw [hm]; rfl
    simp only [List.length_cons] at hl
    have hm1 : (inChunk s [c]).mode = 1 := by
      unfold inChunk
      show (if s.left - (([c] : List UInt8).length : Int) = 0 then 2 else 1) = 1
      rw [if_neg (by simp; omega)]
    have e : inChunk (inChunk s [c]) (d :: t) = inChunk s (c :: d :: t) := by
      unfold inChunk
      simp only [List.length_cons, List.length_nil, List.append_assoc, List.cons_append, List.nil_append]
      congr 1
      · congr 1
        rw [eq_iff_iff]
        omega
      · omega
    rw [List.cons_append, eat_cons (by omega), hb, eat_chunk' (d :: t) r (inChunk s [c]) hm1 (by simp) (by simp [inChunk]; omega), e]
    simp only [List.length_cons, Prod.mk.injEq, and_true]
    omega
/-- Behind a chunk: k of the two bytes of its end are there. -/
def stK (most room fields : Int) (b : List UInt8) (k : Nat) : DS := { (stS most room fields b) with mode := if k = 0 then 2 else if k = 1 then 3 else 0 }
theorem stK_two (most room fields : Int) (b : List UInt8) : stK most room fields b 2 = stS most room fields b := by simp [stK, stS]
theorem chunk_all {most room fields : Int} {b t r : List UInt8} {n : Int} (hn : (t.length : Int) = n) (h0 : t ≠ []) :
    eat { (stS most room fields b) with most := (stS most room fields b).most - n, left := n, mode := 1 } (t ++ r) = (t.length + (eat (stK most room fields (b ++ t) 0) r).1, (eat (stK most room fields (b ++ t) 0) r).2) := by
  rw [eat_chunk' t r _ rfl h0 (by show (t.length : Int) ≤ n; omega)]
  have e : inChunk { (stS most room fields b) with most := (stS most room fields b).most - n, left := n, mode := 1 } t = stK most room fields (b ++ t) 0 := inChunk_all hn
  rw [e]
theorem chunk_part {most room fields : Int} {b t : List UInt8} {n : Int} (hn : (t.length : Int) < n) :
    Sees (eat { (stS most room fields b) with most := (stS most room fields b).most - n, left := n, mode := 1 } t) t.length 0 false (b ++ t) [] := by
  by_cases h0 : t = []
  · subst h0
    rw [eat_nil]
    exact ⟨rfl, rfl, rfl, by simp [stS], rfl⟩
  · have h := eat_chunk' t [] { (stS most room fields b) with most := (stS most room fields b).most - n, left := n, mode := 1 } rfl h0 (by show (t.length : Int) ≤ n; omega)
    rw [List.append_nil, eat_nil] at h
    rw [h]
    exact ⟨rfl, rfl, rfl, rfl, rfl⟩
def retAt (k : Nat) : UInt8 := if k = 0 then 13 else 10
theorem stK_nil (most room fields : Int) (b : List UInt8) (k : Nat) : Sees (eat (stK most room fields b k) []) 0 0 false b [] := by
  rw [eat_nil]
  exact ⟨rfl, rfl, rfl, rfl, rfl⟩
theorem stK_bad (most room fields : Int) (b : List UInt8) (k : Nat) (hk : k < 2) (c : UInt8) (hc : c ≠ retAt k) (r : List UInt8) : Sees (eat (stK most room fields b k) (c :: r)) 1 100 false b [] := by
  match k, hk, hc with
  | 0, _, hc =>
    have hb : bstep (stK most room fields b 0) c = fin { (stK most room fields b 0) with mode := 3 } 100 := by
      show behindChunk _ c = _
      unfold behindChunk
      rw [if_neg (show ¬ c = 13 from hc)]
    rw [eat_cons (by simp [stK]), hb, eat_over (by rfl)]
    exact ⟨rfl, rfl, rfl, rfl, rfl⟩
  | 1, _, hc =>
    have hb : bstep (stK most room fields b 1) c = fin { (stK most room fields b 1) with mode := 0 } 100 := by
      show behindReturn _ c = _
      unfold behindReturn
      rw [if_neg (show ¬ c = 10 from hc)]
    rw [eat_cons (by simp [stK]), hb, eat_over (by rfl)]
    exact ⟨rfl, rfl, rfl, rfl, rfl⟩
theorem stK_on (most room fields : Int) (b : List UInt8) (k : Nat) (hk : k < 2) (r : List UInt8) : eat (stK most room fields b k) (retAt k :: r) = (1 + (eat (stK most room fields b (k + 1)) r).1, (eat (stK most room fields b (k + 1)) r).2) := by
  match k, hk with
  | 0, _ =>
    have hb : bstep (stK most room fields b 0) (retAt 0) = stK most room fields b 1 := by
      show behindChunk _ _ = _
      unfold behindChunk
      rw [if_pos (show retAt 0 = 13 from rfl)]
      rfl
    rw [eat_cons (by simp [stK]), hb, Nat.add_comm]
  | 1, _ =>
    have hb : bstep (stK most room fields b 1) (retAt 1) = stK most room fields b 2 := by
      show behindReturn _ _ = _
      unfold behindReturn
      rw [if_pos (show retAt 1 = 10 from rfl)]
      rfl
    rw [eat_cons (by simp [stK]), hb, Nat.add_comm]
theorem open4_long {m rm f : Int} {b M : List UInt8} {t : List Fl} {u k : Nat} (hk : (k : Int) = rm - u) (hn : ∀ i, i < k → i < M.length → M.getD i 0 ≠ 10) (hl : k < M.length) : Sees (eat (stT m rm f b t u) M) (k + 1) 104 false b t := by
  have h := eat_put4 (M.take k) (M.drop k) (stT m rm f b t u) rfl (noLf_of hn) (by rw [List.length_take]; show _ ≤ rm - (u : Int); omega)
  rw [List.take_append_drop] at h
  rw [h, List.drop_eq_getElem_cons hl, eat_full4 _ _ _ (by rfl) (by show rm - (u : Int) - ((M.take k).length : Int) = 0; rw [List.length_take]; omega)]
  refine ⟨?_, rfl, rfl, rfl, rfl⟩
  show (M.take k).length + 1 = k + 1
  rw [List.length_take]
  omega
theorem open4_short {m rm f : Int} {b M : List UInt8} {t : List Fl} {u : Nat} (hn : ∀ i : Nat, (i : Int) < rm - u → i < M.length → M.getD i 0 ≠ 10) (hl : (M.length : Int) ≤ rm - u) : Sees (eat (stT m rm f b t u) M) M.length 0 false b t := by
  have h1 : noLf M := by
    have := noLf_of (M := M) (k := M.length) (fun i h1 h2 => hn i (by omega) h2)
    rwa [List.take_length] at this
  have h := eat_put4 M [] (stT m rm f b t u) rfl h1 hl
  rw [List.append_nil, eat_nil] at h
  rw [h]
  exact ⟨rfl, rfl, rfl, rfl, rfl⟩
theorem line4_bad {m rm f : Int} {b l r : List UInt8} {t : List Fl} {u : Nat} (hn : noLf l) (hl : (l.length : Int) < rm - u) (h : ∀ k, l ≠ k ++ [13]) : Sees (eat (stT m rm f b t u) (l ++ 10 :: r)) (l.length + 1) 101 false b t := by
  rw [eat_line4 l r (stT m rm f b t u) rfl hn hl, endTrailer_bad rfl h, eat_over (by rfl)]
  exact ⟨rfl, rfl, rfl, rfl, rfl⟩
theorem line4_end {m rm f : Int} {b l r : List UInt8} {t : List Fl} {u : Nat} (hn : noLf l) (hl : (l.length : Int) < rm - u) (h : l = [] ++ [13]) : Sees (eat (stT m rm f b t u) (l ++ 10 :: r)) (l.length + 1) 0 true b t := by
  rw [eat_line4 l r (stT m rm f b t u) rfl hn hl, h, endTrailer_yes rfl, if_pos rfl, eat_over (by rfl)]
  exact ⟨rfl, rfl, rfl, rfl, rfl⟩
theorem line4_many {m rm f : Int} {b l k r : List UInt8} {t : List Fl} {u : Nat} (hn : noLf l) (hl : (l.length : Int) < rm - u) (h : l = k ++ [13]) (h0 : k ≠ []) (hf : f - (t.length : Int) = 0) : Sees (eat (stT m rm f b t u) (l ++ 10 :: r)) (l.length + 1) 104 false b t := by
  rw [eat_line4 l r (stT m rm f b t u) rfl hn hl, h, endTrailer_yes rfl, if_neg h0, if_pos (show (stT m rm f b t u).fields = 0 from hf), eat_over (by rfl)]
  exact ⟨rfl, rfl, rfl, rfl, rfl⟩
theorem line4_not {m rm f : Int} {b l k r : List UInt8} {t : List Fl} {u : Nat} (hn : noLf l) (hl : (l.length : Int) < rm - u) (h : l = k ++ [13]) (h0 : k ≠ []) (hf : f - (t.length : Int) ≠ 0) (hp : (parseL k).2.2 ≠ 0 ∨ trails (parseL k).1.1 = false) : Sees (eat (stT m rm f b t u) (l ++ 10 :: r)) (l.length + 1) 101 false b t := by
  rw [eat_line4 l r (stT m rm f b t u) rfl hn hl, h, endTrailer_yes rfl, if_neg h0, if_neg (show ¬ (stT m rm f b t u).fields = 0 from hf)]
  unfold keep
  rw [if_pos hp, eat_over (by rfl)]
  exact ⟨rfl, rfl, rfl, rfl, rfl⟩
theorem line4_on {m rm f : Int} {b l k r : List UInt8} {t : List Fl} {u : Nat} (hn : noLf l) (hl : (l.length : Int) < rm - u) (h : l = k ++ [13]) (h0 : k ≠ []) (hf : f - (t.length : Int) ≠ 0) (hp : ¬ ((parseL k).2.2 ≠ 0 ∨ trails (parseL k).1.1 = false)) :
    eat (stT m rm f b t u) (l ++ 10 :: r) = (l.length + 1 + (eat (stT m rm f b (t ++ [(parseL k).1]) (u + (l.length + 1))) r).1, (eat (stT m rm f b (t ++ [(parseL k).1]) (u + (l.length + 1))) r).2) := by
  rw [eat_line4 l r (stT m rm f b t u) rfl hn hl, h, endTrailer_yes rfl, if_neg h0, if_neg (show ¬ (stT m rm f b t u).fields = 0 from hf)]
  unfold keep
  rw [if_neg hp]
  have e : ({ ({ (stT m rm f b t u) with room := (stT m rm f b t u).room - ((k ++ [13]).length : Int) - 1 } : DS) with fields := (stT m rm f b t u).fields - 1, tr := t ++ [(parseL k).1] } : DS) = stT m rm f b (t ++ [(parseL k).1]) (u + ((k ++ [13]).length + 1)) := by
    unfold stT
    simp only [List.length_append, List.length_cons, List.length_nil]
    congr 1 <;> omega
  have e2 : ({ ({ (stT m rm f b t u) with room := (stT m rm f b t u).room - ((k ++ [13]).length : Int) - 1 } : DS) with fields := ({ (stT m rm f b t u) with room := (stT m rm f b t u).room - ((k ++ [13]).length : Int) - 1 } : DS).fields - 1, tr := ({ (stT m rm f b t u) with room := (stT m rm f b t u).room - ((k ++ [13]).length : Int) - 1 } : DS).tr ++ [(parseL k).1] } : DS) = stT m rm f b (t ++ [(parseL k).1]) (u + ((k ++ [13]).length + 1)) := e
  rw [e2]

end Ck
end Go.Proofs.YtcelekfokbdmfaaGreatDoor

/-
  What was encoded is decoded; plain.
-/
set_option linter.unusedVariables false
set_option linter.unusedSimpArgs false
set_option maxRecDepth 100000
namespace Go.Proofs.YtcelekfokbdmfaaGreatDoor
open Go.RowKit Go.Shelf
namespace Ck
open Oc Tg _root_.Go.Proofs.YtcelekfokbdmfaaGreatDoor.Fd

theorem hexB_10 {c : UInt8} (h : hexB c = true) : c ≠ 10 := fun e => by rw [e] at h; revert h; decide +kernel
theorem hexd_lf (n : Nat) : noLf (hexd n) := fun c hc => hexB_10 (hexd_hex n c hc)
theorem noLf_app {a b : List UInt8} (h : noLf a) (k : noLf b) : noLf (a ++ b) := fun c hc => by
  rcases List.mem_append.1 hc with h' | h'
  · exact h c h'
  · exact k c h'
theorem noLf_13 : noLf [13] := fun c hc => by simp at hc; subst hc; decide
theorem tok_10 {c : UInt8} (h : tokB c = true) : c ≠ 10 := fun e => by rw [e] at h; revert h; decide +kernel
theorem field_10 {c : UInt8} (h : fieldB c = true) : c ≠ 10 := fun e => by rw [e] at h; revert h; decide +kernel

theorem eat_chunkC {most room fields : Int} {b t : List UInt8} (r : List UInt8) (hl : t.length ≤ 1099511627776) (h : (t.length : Int) ≤ most - b.length) :
    eat (stS most room fields b) (chunkC t ++ r) = ((chunkC t).length + (eat (stS most room fields (b ++ t)) r).1, (eat (stS most room fields (b ++ t)) r).2) := by
  by_cases h0 : t = []
  · subst h0
    simp [chunkC]
  · have hlen := hexd_len 10 t.length (Nat.lt_of_le_of_lt hl (by decide))
    have hs := sizeR_hexd t.length hl
    have hpos : 0 < t.length := List.length_pos_iff.2 h0
    have e : chunkC t ++ r = (hexd t.length ++ [13]) ++ 10 :: (t ++ (retAt 0 :: retAt 1 :: r)) := by
      unfold chunkC lineC
      rw [if_neg h0]
      simp [retAt]
    have el : (chunkC t).length = (hexd t.length ++ [13]).length + 1 + t.length + 1 + 1 := by
      unfold chunkC lineC
      rw [if_neg h0]
      simp only [List.length_append, List.length_cons, List.length_nil]
    have h1 := line0_chunk (s := stS most room fields b) (l := hexd t.length ++ [13]) (k := hexd t.length) (r := t ++ (retAt 0 :: retAt 1 :: r)) rfl ⟨rfl, rfl, rfl⟩ (noLf_app (hexd_lf _) noLf_13) (by rw [List.length_append]; simp; omega) rfl (by rw [hs]) (by rw [hs]; show ¬ most - (b.length : Int) < (t.length : Int); omega) (by rw [hs]; show (t.length : Int) ≠ 0; omega)
    rw [hs] at h1
    have h2 := eat_on h1 (chunk_all (most := most) (room := room) (fields := fields) (b := b) (t := t) (r := retAt 0 :: retAt 1 :: r) (n := (t.length : Int)) rfl h0)
    have h3 := eat_on h2 (stK_on most room fields (b ++ t) 0 (by omega) (retAt 1 :: r))
    have h4 := eat_on h3 (stK_on most room fields (b ++ t) 1 (by omega) r)
    rw [stK_two] at h4
    rw [e, h4, el]
theorem eat_cutC : ∀ {most room fields : Int} (l : List Int) (b t r : List UInt8), t.length ≤ 1099511627776 → (t.length : Int) ≤ most - b.length →
    eat (stS most room fields b) (cutC l t ++ r) = ((cutC l t).length + (eat (stS most room fields (b ++ t)) r).1, (eat (stS most room fields (b ++ t)) r).2)
  | most, room, fields, [], b, t, r, hl, h => eat_chunkC r hl h
  | most, room, fields, n :: l, b, t, r, hl, h => by
    have h1 : (t.take n.toNat).length ≤ t.length := by rw [List.length_take]; omega
    have h2 : (t.drop n.toNat).length = t.length - n.toNat := List.length_drop
    have h3 : (t.take n.toNat).length = min n.toNat t.length := List.length_take
    have e1 := eat_chunkC (most := most) (room := room) (fields := fields) (b := b) (t := t.take n.toNat) (cutC l (t.drop n.toNat) ++ r) (by omega) (by omega)
    have e2 := eat_cutC (most := most) (room := room) (fields := fields) l (b ++ t.take n.toNat) (t.drop n.toNat) r (by omega) (by rw [List.length_append]; omega)
    have e3 := eat_on e1 e2
    have e4 : b ++ t.take n.toNat ++ t.drop n.toNat = b ++ t := by rw [List.append_assoc, List.take_append_drop]
    rw [e4] at e3
    show eat _ ((chunkC (t.take n.toNat) ++ cutC l (t.drop n.toNat)) ++ r) = ((chunkC (t.take n.toNat) ++ cutC l (t.drop n.toNat)).length + _, _)
    rw [List.append_assoc, e3, List.length_append]
theorem lineC_zero : lineC 0 = [48, 13, 10] := by decide +kernel
theorem eat_last {most room fields : Int} {b : List UInt8} (r : List UInt8) (h : (b.length : Int) ≤ most) :
    eat (stS most room fields b) (lineC 0 ++ r) = (3 + (eat (stT most room fields b [] 0) r).1, (eat (stT most room fields b [] 0) r).2) := by
  have hs := sizeR_hexd 0 (by omega)
  have hh : hexd 0 = [48] := by decide +kernel
  rw [hh] at hs
  have h1 := line0_last (s := stS most room fields b) (l := [48, 13]) (k := [48]) (r := r) rfl ⟨rfl, rfl, rfl⟩ (fun c hc => by simp at hc; rcases hc with rfl | rfl <;> decide) (by simp) rfl (by rw [hs]) (by rw [hs]; show ¬ most - (b.length : Int) < ((0 : Nat) : Int); omega) (by rw [hs]; rfl)
  rw [stT_of] at h1
  rw [lineC_zero]
  exact h1

theorem isName_tok {l : List UInt8} (h : isName l = true) : ∀ c ∈ l, tokB c = true := fun c hc => by
  unfold isName isTok at h
  simp only [Bool.and_eq_true, List.all_eq_true] at h
  first | exact h.1.2 c hc | exact h.1.1 c hc | exact h.2.1 c hc | exact h.2.2 c hc
theorem okT_is {p : Fl} (h : okT p = true) : isName p.1 = true ∧ isValue p.2 = true ∧ trails p.1 = true := by
  unfold okT at h
  simp only [Bool.and_eq_true] at h
  exact ⟨h.1.1, h.1.2, h.2⟩
theorem line_10 {p : Fl} (h1 : isName p.1 = true) (h2 : isValue p.2 = true) : noLf (lineP p) := by
  have hv : ∀ c ∈ p.2, c ≠ 10 := fun c hc => by
    unfold isValue isFld at h2
    simp only [Bool.and_eq_true, List.all_eq_true] at h2
    exact field_10 (by first | exact h2.1.2 c hc | exact h2.1.1 c hc | exact h2.2.1 c hc | exact h2.2.2 c hc | exact h2.1 c hc | exact h2.2 c hc | exact h2.1.1.1 c hc | exact h2.1.1.2 c hc)
  intro c hc
  unfold lineP at hc
  split at hc
  · rcases List.mem_append.1 hc with h | h
    · exact tok_10 (isName_tok h1 c h)
    · simp at h; subst h; decide
  · rcases List.mem_append.1 hc with h | h
    · rcases List.mem_append.1 h with h | h
      · rcases List.mem_append.1 h with h | h
        · exact tok_10 (isName_tok h1 c h)
        · simp at h; subst h; decide
      · simp at h; subst h; decide
    · exact hv c h
theorem lineP_ne (p : Fl) : lineP p ≠ [] := by
  unfold lineP
  split <;> simp

theorem eat_trailG : ∀ {m rm f : Int} {b : List UInt8} (t acc : List Fl) (u : Nat) (r : List UInt8), t.all okT = true → ((trailG t).length : Int) + 2 ≤ rm - u → (acc.length : Int) + t.length ≤ f →
    Sees (eat (stT m rm f b acc u) (trailG t ++ [13, 10] ++ r)) ((trailG t).length + 2) 0 true b (acc ++ t)
  | m, rm, f, b, [], acc, u, r, hok, hr, hf => by
    have := line4_end (m := m) (rm := rm) (f := f) (b := b) (l := [13]) (r := r) (t := acc) (u := u) noLf_13 (by simp [trailG] at hr ⊢; omega) rfl
    simp only [List.append_nil]
    exact this
  | m, rm, f, b, p :: t, acc, u, r, hok, hr, hf => by
    rw [List.all_cons, Bool.and_eq_true] at hok
    obtain ⟨k1, k2, k3⟩ := okT_is hok.1
    have hp := parse_line k1 k2
    have e : trailG (p :: t) ++ [13, 10] ++ r = (lineP p ++ [13]) ++ 10 :: (trailG t ++ [13, 10] ++ r) := by simp [trailG]
    have el : (trailG (p :: t)).length = (lineP p ++ [13]).length + 1 + (trailG t).length := by simp [trailG]; omega
    simp only [List.length_cons] at hf
    have h1 := line4_on (m := m) (rm := rm) (f := f) (b := b) (l := lineP p ++ [13]) (k := lineP p) (r := trailG t ++ [13, 10] ++ r) (t := acc) (u := u) (noLf_app (line_10 k1 k2) noLf_13) (by omega) rfl (lineP_ne p) (by omega) (by rw [hp]; simp [k3])
    rw [hp] at h1
    have h2 := eat_trailG (m := m) (rm := rm) (f := f) (b := b) t (acc ++ [p]) (u + ((lineP p ++ [13]).length + 1)) r hok.2 (by omega) (by rw [List.length_append]; simp only [List.length_cons, List.length_nil]; omega)
    have h3 := Sees.on h1 h2
    rw [e, el]
    have e4 : acc ++ [p] ++ t = acc ++ p :: t := by simp
    rw [e4] at h3
    have e5 : (lineP p ++ [13]).length + 1 + ((trailG t).length + 2) = (lineP p ++ [13]).length + 1 + (trailG t).length + 2 := by omega
    rw [e5] at h3
    exact h3

/-- All that is encoded. -/
def encL (body : List UInt8) (l : List Int) (t : List Fl) : List UInt8 := cutC l body ++ lineC 0 ++ (trailG t ++ [13, 10])
theorem encL_len (body : List UInt8) (l : List Int) (t : List Fl) : (encL body l t).length = (cutC l body).length + (3 + ((trailG t).length + 2)) := by
  unfold encL
  simp only [List.length_append, lineC_zero, List.length_cons, List.length_nil]
  omega
theorem encR_yes {body : List UInt8} {l : List Int} {t : List Fl} (hl : ∀ x ∈ l, 1 ≤ x) (ht : t.all okT = true) : encR body l t = (encL body l t, 0) := by
  have : lowI1 l = -1 := lowI1_no (fun j hj => by have := hl _ (nthI_mem l j hj); omega)
  unfold encR
  rw [this, if_neg (by omega), ht, if_pos rfl]
  rfl
theorem eat_enc {most room fields : Int} (body : List UInt8) (l : List Int) (t : List Fl) (r : List UInt8) (hb : body.length ≤ 1099511627776) (hm : (body.length : Int) ≤ most) (ht : t.all okT = true) (hr : ((trailG t).length : Int) + 2 ≤ room) (hf : (t.length : Int) ≤ fields) :
    Sees (eat (new most room fields) (encL body l t ++ r)) (encL body l t).length 0 true body t := by
  have h1 := eat_cutC (most := most) (room := room) (fields := fields) l [] body (lineC 0 ++ (trailG t ++ [13, 10] ++ r)) hb (by simp; omega)
  rw [List.nil_append] at h1
  have h2 := eat_on h1 (eat_last (most := most) (room := room) (fields := fields) (b := body) (trailG t ++ [13, 10] ++ r) hm)
  have h3 := Sees.on h2 (eat_trailG (m := most) (rm := room) (f := fields) (b := body) t [] 0 r ht (by omega) (by simp; omega))
  rw [stS_new] at h3
  rw [encL_len, show encL body l t ++ r = cutC l body ++ (lineC 0 ++ (trailG t ++ [13, 10] ++ r)) by unfold encL; simp]
  rw [Nat.add_assoc] at h3
  exact h3
theorem dec_enc {most room fields : Int} (body : List UInt8) (l : List Int) (t : List Fl) (r : List UInt8) (hb : body.length ≤ 1099511627776) (hm : (body.length : Int) ≤ most) (ht : t.all okT = true) (hr : ((trailG t).length : Int) + 2 ≤ room) (hf : (t.length : Int) ≤ fields) :
    decR most room fields (encL body l t ++ r) = (body, t, ((encL body l t).length : Int), 0) := by
  obtain ⟨h1, h2, h3, h4, h5⟩ := eat_enc (most := most) (room := room) (fields := fields) body l t r hb hm ht hr hf
  unfold decR
  rw [if_neg (by omega), h2, if_neg (by simp), h3, if_neg (by simp), h4, h5, h1]
/-- A beginning of it is open. -/
theorem dec_open {most room fields : Int} (body : List UInt8) (l : List Int) (t : List Fl) (n : Nat) (hn : n < (encL body l t).length) (hb : body.length ≤ 1099511627776) (hm : (body.length : Int) ≤ most) (hm2 : most ≤ 9223372036854775807) (ht : t.all okT = true) (hr : ((trailG t).length : Int) + 2 ≤ room) (hr2 : room ≤ 9223372036854775807) (hf : (t.length : Int) ≤ fields) (hf2 : fields ≤ 9223372036854775807) :
    decR most room fields ((encL body l t).take n) = ([], [], (n : Int), 105) := by
  have hs := eat_enc (most := most) (room := room) (fields := fields) body l t [] hb hm ht hr hf
  rw [List.append_nil] at hs
  have ha := eat_app ((encL body l t).take n) ((encL body l t).drop n) (new most room fields)
  rw [List.take_append_drop] at ha
  have hlen : ((encL body l t).take n).length = n := by rw [List.length_take]; omega
  have hle := eat_le ((encL body l t).take n) (new most room fields)
  have hmode : (eat (new most room fields) ((encL body l t).take n)).2.mode ≠ 5 := fun h5 => by
    rw [eat_over h5] at ha
    have := hs.1
    rw [ha] at this
    simp only [Nat.add_zero] at this
    omega
  have hok := eat_ok ((encL body l t).take n) (new most room fields) 0 (Ok.new most room fields ⟨by omega, hm2⟩ ⟨by omega, hr2⟩ ⟨by omega, hf2⟩)
  obtain ⟨hd, he⟩ := hok.live hmode
  have hall := eat_all _ _ hmode
  unfold decR
  rw [if_neg (by omega), he, if_neg (by simp), hd, if_pos rfl, hall, hlen]

/-- One byte more than may be. -/
theorem chunk_much {most room fields : Int} {b t : List UInt8} (r : List UInt8) (hl : t.length ≤ 1099511627776) (h : most - b.length < (t.length : Int)) (h0 : t ≠ []) :
    ∃ p, 3 ≤ p ∧ p ≤ (chunkC t).length ∧ (chunkC t ++ r).getD (p - 1) 0 = 10 ∧ (eat (stS most room fields b) (chunkC t ++ r)).1 = p ∧ (eat (stS most room fields b) (chunkC t ++ r)).2.err = 102 := by
  have hlen := hexd_len 10 t.length (Nat.lt_of_le_of_lt hl (by decide))
  have hs := sizeR_hexd t.length hl
  have hne := List.length_pos_iff.2 (hexd_ne t.length)
  have e : chunkC t ++ r = (hexd t.length ++ [13]) ++ 10 :: (t ++ (13 :: 10 :: r)) := by
    unfold chunkC lineC
    rw [if_neg h0]
    simp
  have el : (chunkC t).length = (hexd t.length ++ [13]).length + 1 + t.length + 1 + 1 := by
    unfold chunkC lineC
    rw [if_neg h0]
    simp only [List.length_append, List.length_cons, List.length_nil]
  have e2 : (hexd t.length ++ [13]).length = (hexd t.length).length + 1 := by simp
  have h1 := line0_much (s := stS most room fields b) (l := hexd t.length ++ [13]) (k := hexd t.length) (r := t ++ (13 :: 10 :: r)) rfl ⟨rfl, rfl, rfl⟩ (noLf_app (hexd_lf _) noLf_13) (by rw [List.length_append]; simp; omega) rfl (by rw [hs]) (by rw [hs]; show most - (b.length : Int) < (t.length : Int); omega)
  refine ⟨(hexd t.length ++ [13]).length + 1, by omega, by omega, ?_, ?_, ?_⟩
  · rw [e, Nat.add_sub_cancel]
    exact getD_app _ _ _
  · rw [e]; exact h1.1
  · rw [e]; exact h1.2.1
theorem cut_much : ∀ {most room fields : Int} (l : List Int) (b t r : List UInt8), t.length ≤ 1099511627776 → most - b.length < (t.length : Int) → (b.length : Int) ≤ most → 
    ∃ p, 3 ≤ p ∧ p ≤ (cutC l t).length ∧ (cutC l t ++ r).getD (p - 1) 0 = 10 ∧ (eat (stS most room fields b) (cutC l t ++ r)).1 = p ∧ (eat (stS most room fields b) (cutC l t ++ r)).2.err = 102
  | most, room, fields, [], b, t, r, hl, h, hb => chunk_much r hl h (fun e => by subst e; simp at h; omega)
  | most, room, fields, n :: l, b, t, r, hl, h, hb => by
    have h2 : (t.drop n.toNat).length = t.length - n.toNat := List.length_drop
    have h3 : (t.take n.toNat).length = min n.toNat t.length := List.length_take
    have es : cutC (n :: l) t ++ r = chunkC (t.take n.toNat) ++ (cutC l (t.drop n.toNat) ++ r) := by
      show (chunkC (t.take n.toNat) ++ cutC l (t.drop n.toNat)) ++ r = _
      rw [List.append_assoc]
    have el : (cutC (n :: l) t).length = (chunkC (t.take n.toNat)).length + (cutC l (t.drop n.toNat)).length := by
      show (chunkC (t.take n.toNat) ++ cutC l (t.drop n.toNat)).length = _
      rw [List.length_append]
    rw [es, el]
    by_cases hm : most - b.length < ((t.take n.toNat).length : Int)
    · obtain ⟨p, p1, p2, p3, p4, p5⟩ := chunk_much (most := most) (room := room) (fields := fields) (b := b) (t := t.take n.toNat) (cutC l (t.drop n.toNat) ++ r) (by omega) hm (fun e => by rw [e] at hm; simp at hm; omega)
      exact ⟨p, p1, by omega, p3, p4, p5⟩
    · have e1 := eat_chunkC (most := most) (room := room) (fields := fields) (b := b) (t := t.take n.toNat) (cutC l (t.drop n.toNat) ++ r) (by omega) (by omega)
      obtain ⟨p, p1, p2, p3, p4, p5⟩ := cut_much (most := most) (room := room) (fields := fields) l (b ++ t.take n.toNat) (t.drop n.toNat) r (by omega) (by rw [List.length_append]; omega) (by rw [List.length_append]; omega)
      refine ⟨(chunkC (t.take n.toNat)).length + p, by omega, by omega, ?_, ?_, ?_⟩
      · rw [List.getD_eq_getElem?_getD, List.getElem?_append_right (by omega), show (chunkC (t.take n.toNat)).length + p - 1 - (chunkC (t.take n.toNat)).length = p - 1 by omega, ← List.getD_eq_getElem?_getD]
        exact p3
      · rw [e1, p4]
      · rw [e1]; exact p5
theorem dec_much (body : List UInt8) (l : List Int) (hb : body.length ≤ 1099511627776) (h0 : body ≠ []) :
    ∃ p : Nat, 2 ≤ p ∧ p < (encL body l []).length ∧ (encL body l []).getD p 0 = 10 ∧ decR ((body.length : Int) - 1) 2 0 (encL body l []) = ([], [], (p : Int), 102) := by
  have hpos := List.length_pos_iff.2 h0
  obtain ⟨p, p1, p2, p3, p4, p5⟩ := cut_much (most := (body.length : Int) - 1) (room := 2) (fields := 0) l [] body (lineC 0 ++ (trailG [] ++ [13, 10])) hb (by simp; omega) (by simp; omega)
  have e : cutC l body ++ (lineC 0 ++ (trailG [] ++ [13, 10])) = encL body l [] := by unfold encL; rw [List.append_assoc]
  rw [e] at p3 p4 p5
  rw [stS_new] at p4 p5
  refine ⟨p - 1, by omega, by rw [encL_len]; omega, p3, ?_⟩
  unfold decR
  rw [if_neg (by omega), p5, if_pos (by decide), p4]
  congr 3
  omega

end Ck
end Go.Proofs.YtcelekfokbdmfaaGreatDoor

/-
  The document's MayTrail; the law ChunkTrails.
-/
set_option linter.unusedVariables false
set_option linter.unusedSimpArgs false
set_option maxRecDepth 100000
namespace Go.Proofs.YtcelekfokbdmfaaGreatDoor
open Go.RowKit Go.Shelf
namespace Ck
open Oc Tg _root_.Go.Proofs.YtcelekfokbdmfaaGreatDoor.Fd

/-- Is one of them that text? -/
def inL (L : List (List UInt8)) (x : List UInt8) : Bool := L.contains x

set_option maxRecDepth 100000 in
set_option maxHeartbeats 1000000 in
theorem rIn_any (v : Value) (L : List (List UInt8)) (x : List UInt8) (hl : L.length ≤ 1048576) (w : World) (h : RdS v L w) :
    Calls Tryz.prog 84 #[v, .string (str x)] w fun e w' => e = .returned (.bool (inL L x)) ∧ w' = w := by
  have HR : Hid (RdS v L w) := h
  obtain ⟨a, c, rfl, _⟩ := h
  generalize hX : str x = X
  have HX : Hid (X = str x) := hX.symm
  clear hX
  go_enter Tryz.func84, Tryz.ntmps84
  go_wp2
  go_loop [9] (fun i => ∃ k : Nat, k ≤ L.length ∧ i = .int .i64 k ∧ Hid (∀ j, j < k → L.getD j [] ≠ x)) (fun i => L.length - (intOf i).toNat)
  case atStart => exact ⟨0, Nat.zero_le _, rfl, (fun j hj => by omega : ∀ j, j < 0 → _)⟩
  case round =>
    obtain ⟨k, hk, rfl, hall⟩ := hrel
    by_cases hlt : k < L.length
    · obtain ⟨a', c', e', hcs⟩ := HR.out
      injection e' with e1 _ e2
      subst e1 e2
      rcases hcs with h | ⟨g, o, rfl, hlc, hcell⟩
      · rw [h] at hlt; simp at hlt
      have p0 := hcell k hlt
      clear hcell
      by_cases he : L.getD k [] = x
      · have HE : Hid (inL L x = true) := by
          show _ = _
          unfold inL
          rw [List.contains_iff_mem, ← he, List.getD_eq_getElem?_getD, List.getElem?_eq_getElem hlt]
          exact List.getElem_mem hlt
        rw [he, ← HX.out] at p0
        have hq : (X.toList == X.toList) = true := by simp
        go_wp2
        go_ret
        exact ⟨ret_bool HE.out.symm, rfl⟩
      · have HN : Hid (∀ j, j < k + 1 → L.getD j [] ≠ x) := fun j hj => by
          by_cases hjk : j = k
          · subst hjk; exact he
          · exact hall.out j (by omega)
        have hq : ((str (L.getD k [])).toList == X.toList) = false := by
          rw [eq_toList, decide_eq_false_iff_not, HX.out]
          exact fun e => he (str_inj e)
        generalize str (L.getD k []) = Y at *
        go_wp2
        go_round
        case rel => exact ⟨k + 1, by omega, by go_num, HN⟩
        case measure => simp [intOf]; omega
    · have HE : Hid (inL L x = false) := by
        show _ = _
        unfold inL
        cases hc : L.contains x with
        | false => rfl
        | true =>
          rw [List.contains_iff_mem] at hc
          obtain ⟨j, hj, e⟩ := List.mem_iff_getElem.1 hc
          exact absurd (by rw [List.getD_eq_getElem?_getD, List.getElem?_eq_getElem hj, ← e]; rfl) (hall.out j (by omega))
      go_wp2
      go_ret
      exact ⟨ret_bool HE.out.symm, rfl⟩

def never : Array Value := #[.string ⟨#[99, 111, 110, 110, 101, 99, 116, 105, 111, 110]⟩, .string ⟨#[99, 111, 110, 116, 101, 110, 116, 45, 101, 110, 99, 111, 100, 105, 110, 103]⟩, .string ⟨#[99, 111, 110, 116, 101, 110, 116, 45, 108, 101, 110, 103, 116, 104]⟩, .string ⟨#[99, 111, 110, 116, 101, 110, 116, 45, 114, 97, 110, 103, 101]⟩, .string ⟨#[99, 111, 110, 116, 101, 110, 116, 45, 116, 121, 112, 101]⟩, .string ⟨#[101, 120, 112, 101, 99, 116]⟩, .string ⟨#[104, 111, 115, 116]⟩, .string ⟨#[107, 101, 101, 112, 45, 97, 108, 105, 118, 101]⟩, .string ⟨#[116, 101]⟩, .string ⟨#[116, 114, 97, 105, 108, 101, 114]⟩, .string ⟨#[116, 114, 97, 110, 115, 102, 101, 114, 45, 101, 110, 99, 111, 100, 105, 110, 103]⟩, .string ⟨#[117, 112, 103, 114, 97, 100, 101]⟩]
theorem never_at : ∀ j, j < 12 → never[j]? = some (.string (str (heads.getD j []))) := fun j hj => match j, hj with
  | 0, _ => rfl
  | 1, _ => rfl
  | 2, _ => rfl
  | 3, _ => rfl
  | 4, _ => rfl
  | 5, _ => rfl
  | 6, _ => rfl
  | 7, _ => rfl
  | 8, _ => rfl
  | 9, _ => rfl
  | 10, _ => rfl
  | 11, _ => rfl
theorem never_rd (w : World) : RdS (.slice (some ⟨w.heap.size, 0, none⟩) 12 12) heads (w.alloc (.cells never 9)) := by
  refine ⟨_, 12, rfl, .inr ⟨w.heap.size, 0, rfl, by decide, fun j hj => ?_⟩⟩
  rw [cell_of_row _ w.heap.size _ _ _ _ (heap_alloc_new w _), Nat.zero_add]
  exact never_at j hj

set_option maxHeartbeats 1000000 in
theorem rMayTrail_any (l : List UInt8) (hl : l.length ≤ maxLen) (w : World) :
    Calls Tryz.prog 106 #[.string (str l)] w fun e w' => e = .returned (.bool (trails l)) ∧ Below w.heap.size w w' := by
  have HN : Hid (∀ w, Calls Tryz.prog 101 #[.string (str l)] w fun e w' => e = .returned (.bool (isName l)) ∧ w' = w) := fun w => by
    have h := rIsName_any (str l) (by rw [str_size]; exact hl) w
    rw [str_list] at h
    exact h
  have HL : Hid (∀ w, Calls Tryz.prog 100 #[.string (str l)] w fun e w' => e = .returned (.string (str (lower l))) ∧ Below w.heap.size w w') := fun w => by
    have h := Fd.rLower_any (str l) (by rw [str_size]; exact hl) w
    unfold lowS at h
    rw [str_list] at h
    exact h
  have HI : Hid (∀ w1, Below (w.alloc (.cells never 9)).heap.size (w.alloc (.cells never 9)) w1 → Calls Tryz.prog 84 #[.slice (some ⟨w.heap.size, 0, none⟩) 12 12, .string (str (lower l))] w1 fun e w' => e = .returned (.bool (heads.contains (lower l))) ∧ w' = w1) := fun w1 hb => rIn_any _ heads _ (by decide) w1 ((never_rd w).below hb)
  have HBA : Hid (Below w.heap.size w (w.alloc (.cells never 9))) := (Below.refl _ w).alloc (Nat.le_refl _) _
  unfold trails
  generalize isName l = b at *
  generalize heads.contains (lower l) = c at *
  generalize str (lower l) = M at *
  generalize str l = X at *
  clear hl
  unfold never at *
  cases b with
  | false =>
    go_enter Tryz.func106, Tryz.ntmps106
    go_wp2_with fail
    refine (HN.out _).mono ?_
    rintro e w1 ⟨rfl, hw⟩
    rw [hw]
    go_wp2
    go_ret
    exact ⟨ret_bool (by simp), HBA.out⟩
  | true =>
    go_enter Tryz.func106, Tryz.ntmps106
    go_wp2_with fail
    refine (HN.out _).mono ?_
    rintro e w1 ⟨rfl, hw⟩
    rw [hw]
    go_wp2_with fail
    refine (HL.out _).mono ?_
    rintro e w2 ⟨rfl, hb2⟩
    have HB2 : Hid (Below w.heap.size w w2) := bel_trans HBA.out hb2
    have HB2' := HI.out _ hb2
    clear hb2
    have HI2 : Hid (Calls Tryz.prog 84 #[.slice (some ⟨w.heap.size, 0, none⟩) 12 12, .string M] w2 fun e w' => e = .returned (.bool c) ∧ w' = w2) := HB2'
    clear HB2'
    go_wp2_with fail
    refine HI2.out.mono ?_
    rintro e w3 ⟨rfl, hw3⟩
    rw [hw3]
    go_wp2
    go_ret
    exact ⟨ret_bool (by simp), HB2.out⟩

end Ck
end Go.Proofs.YtcelekfokbdmfaaGreatDoor
