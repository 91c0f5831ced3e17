/- A pond with a frog moved: impl.withFrogMoved, spec.fgMove. -/
import Derived.Test.YteoggpollgkfiaaDoorTo
import Derived.Lib.OthersKept
import Derived.Laws.IdiomStrings
import Derived.OwnWalk
namespace Go.Proofs.YteoggpollgkfiaaDoor
set_option linter.unusedVariables false
open Go.RowKit

def mvL (l : List UInt8) (i t : Nat) : List UInt8 := (l.set i 46).set t (l.getD i 0)
def mvB (s : ByteArray) (i t : Nat) : ByteArray := ⟨(mvL s.data.toList i t).toArray⟩
theorem mvL_len (l : List UInt8) (i t : Nat) : (mvL l i t).length = l.length := by simp [mvL]
theorem mvB_size (s : ByteArray) (i t : Nat) : (mvB s i t).size = s.size := by
  show (mvL s.data.toList i t).toArray.size = s.data.size
  rw [List.size_toArray, mvL_len]; simp
theorem mvL_at {l : List UInt8} {i t k : Nat} (hk : k < l.length) (ht : t < l.length) : (mvL l i t)[k]'(by rw [mvL_len]; exact hk) = if t = k then l.getD i 0 else if i = k then 46 else l[k] := by
  simp only [mvL, List.getElem_set]

theorem mv_cells {s : ByteArray} {i t cap : Nat} {w : World} {C : Array Value} {T : TypeId} (hi : i < s.size) (ht : t < s.size) (hC : C = bytesRow s cap) (fr : Nat × Nat) (x : Value) (hx : x = .int .u8 (s[i].toNat : Int)) :
    ∀ j (hj : j < (mvL s.data.toList i t).length), (((w.alloc (.cells C T fr)).setCell ⟨w.heap.size, i, none⟩ (.int .u8 46)).setCell ⟨w.heap.size, t, none⟩ x).cell? ((⟨w.heap.size, 0, none⟩ : Addr).add j) = some (.int .u8 ((mvL s.data.toList i t)[j].toNat : Int)) := by
  intro j hj
  have hj' : j < s.data.size := by simpa [mvL] using hj
  have hold : ∀ j (hj : j < s.data.size), (w.alloc (.cells C T fr)).cell? ⟨w.heap.size, j, none⟩ = some (.int .u8 (s.data[j].toNat : Int)) := fun j hj => by
    rw [World.cell?_alloc_mark, hC]; exact bytesRow_at s cap j hj
  have ea : (⟨w.heap.size, 0, none⟩ : Addr).add j = ⟨w.heap.size, j, none⟩ := by simp [Addr.add]; omega
  have hs1 : ∀ j (hj : j < s.data.size), ((w.alloc (.cells C T fr)).setCell ⟨w.heap.size, i, none⟩ (.int .u8 46)).cell? ⟨w.heap.size, j, none⟩ = some (.int .u8 (if i = j then 46 else (s.data[j].toNat : Int))) := fun j hj => by
    by_cases e : i = j
    · subst e; rw [World.cell?_setCell_same _ _ _ (hold i hj)]; simp
    · rw [World.cell?_setCell_other, hold j hj]
      · simp [e]
      · intro h; injection h; omega
  rw [ea, mvL_at (by simpa using hj') (by simpa using ht)]
  have eg : s.data.toList.getD i 0 = s[i] := by
    rw [List.getD_eq_getElem?_getD, List.getElem?_eq_getElem (by simpa using hi)]; rfl
  by_cases e : t = j
  · subst e
    rw [World.cell?_setCell_same _ _ _ (hs1 t ht), if_pos rfl, hx, eg]
  · rw [World.cell?_setCell_other, hs1 j hj', if_neg e]
    · by_cases e2 : i = j
      · simp [e2]
      · simp [e2]
    · intro h; injection h; omega

set_option maxHeartbeats 400000 in
theorem withMoved (s : ByteArray) (i t : Nat) (w : World) (hz : s.size ≤ 9) (hi : i < s.size) (ht : t < s.size) :
    Calls Tryd.prog 54 #[.string s, .int .i64 i, .int .i64 t] w fun e w' => e = .returned (.string (mvB s i t)) ∧ Below w.heap.size w w' := by
  have hcv := run_bytes_of_string (P := Tryd.prog) w 9 65 5 s Tryd.underlying9 Tryd.underlying65 Tryd.underlying5
  have hcap := grownCap_ge w s.size 0 5
  generalize grownCap w s.size 0 5 = cap at hcv hcap
  obtain ⟨C, hC⟩ : ∃ C, C = bytesRow s cap := ⟨_, rfl⟩
  rw [← hC] at hcv
  have hcell : ∀ j (hj : j < s.data.size), (w.alloc (.cells C 5 (C.size, C.size + 1))).cell? ⟨w.heap.size, j, none⟩ = some (.int .u8 (s.data[j].toNat : Int)) := fun j hj => by
    rw [World.cell?_alloc_mark, hC]; exact bytesRow_at s cap j hj
  have hc0 : (w.alloc (.cells C 5 (C.size, C.size + 1))).cell? ⟨w.heap.size, i, none⟩ = some (.int .u8 (s[i].toNat : Int)) := hcell i hi
  have hCs : s.size ≤ C.size := by rw [hC]; simp [bytesRow]
  have hz0 : ∀ j, j < s.size → (w.alloc (.cells C 5 (C.size, C.size + 1))).frozen? ⟨w.heap.size, j, none⟩ = false := fun j hj => by
    rw [World.frozen?_alloc_mark]; simp; omega
  have hz1 := hz0 i hi
  have hz2 : ((w.alloc (.cells C 5 (C.size, C.size + 1))).setCell ⟨w.heap.size, i, none⟩ (.int .u8 46)).frozen? ⟨w.heap.size, t, none⟩ = false := by
    rw [World.frozen?_setCell]; exact hz0 t ht
  obtain ⟨x, hx⟩ : ∃ x, ((w.alloc (.cells C 5 (C.size, C.size + 1))).setCell ⟨w.heap.size, i, none⟩ (.int .u8 46)).cell? ⟨w.heap.size, t, none⟩ = some x := by
    by_cases e : i = t
    · subst e; exact ⟨_, World.cell?_setCell_same _ _ _ hc0⟩
    · refine ⟨.int .u8 (s.data[t].toNat : Int), ?_⟩
      rw [World.cell?_setCell_other, hcell t ht]
      intro h; injection h; omega
  have hb := run_convert_bytes_back (P := Tryd.prog) (((w.alloc (.cells C 5 (C.size, C.size + 1))).setCell ⟨w.heap.size, i, none⟩ (.int .u8 46)).setCell ⟨w.heap.size, t, none⟩ (.int .u8 (s[i].toNat : Int))).drew 65 9 5 ⟨w.heap.size, 0, none⟩ cap (mvL s.data.toList i t) Tryd.underlying65 Tryd.underlying5 Tryd.underlying9
    (mv_cells hi ht hC _ _ rfl)
  have hl : (mvL s.data.toList i t).length = s.size := by rw [mvL_len]; simp
  rw [hl] at hb
  have HC := Lib.hid hC
  have HL := Lib.hid hl
  clear hC hl hcell hz0
  have hbel : Below w.heap.size w (((w.alloc (.cells C 5 (C.size, C.size + 1))).setCell ⟨w.heap.size, i, none⟩ (.int .u8 46)).setCell ⟨w.heap.size, t, none⟩ (.int .u8 (s[i].toNat : Int))).drew := ((((Below.refl _ _).alloc (Nat.le_refl _) _).setCell (Nat.le_refl _) _).setCell (Nat.le_refl _) _).drew
  have HB := Lib.hid hbel
  clear hbel
  go_enter Tryd.func54, Tryd.ntmps54
  go_wp2
  go_ret
  exact ⟨rfl, HB.out⟩

theorem sg_ascii {s : ByteArray} (h : isPd s = true) {k : Nat} (hk : k < s.size) : (s[k]'hk).toNat < 128 := by
  have := (isPd_in h).2.2 k hk
  unfold fsg at this; omega
theorem pref_size {s o : ByteArray} {l : List UInt8} {k : Nat} (hk : k ≤ s.size) (hl : l.length = s.size) (h : o.data.toList = l.take k) : o.size = k := by
  have := congrArg List.length h
  rw [List.length_take, Array.length_toList, hl] at this
  show o.data.size = k
  omega
theorem pref_step {o q : ByteArray} {l : List UInt8} {k : Nat} {x : UInt8} (hx : l[k]? = some x) (h : o.data.toList = l.take k) (hq : q.data.toList = [x]) : (o ++ q).data.toList = l.take (k + 1) := by
  obtain ⟨hk, rfl⟩ := List.getElem?_eq_some_iff.1 hx
  rw [ByteArray.data_append, Array.toList_append, h, hq, List.take_succ_eq_append_getElem hk]
theorem one_at {s : ByteArray} {k : Nat} (hk : k < s.size) : (s.extract k (k + 1)).data.toList = [s.data.toList.getD k 0] := by
  have e : k < s.data.toList.length := by simpa using hk
  rw [ByteArray.data_extract, Array.toList_extract, List.extract_eq_take_drop, show k + 1 - k = 1 from by omega, List.drop_eq_getElem_cons e, List.getD_eq_getElem?_getD, List.getElem?_eq_getElem e]
  rfl
theorem mvL_get {l : List UInt8} {i t k : Nat} (hk : k < l.length) (ht : t < l.length) : (mvL l i t)[k]? = some (if t = k then l.getD i 0 else if i = k then 46 else l.getD k 0) := by
  rw [List.getElem?_eq_getElem (by rw [mvL_len]; exact hk), mvL_at hk ht, List.getD_eq_getElem?_getD (l := l) (i := k), List.getElem?_eq_getElem hk]
  rfl
theorem pref_end {o s : ByteArray} {l : List UInt8} {k : Nat} (hk : l.length ≤ k) (h : o.data.toList = l.take k) : o = ⟨l.toArray⟩ := by
  apply ByteArray.ext
  apply Array.toList_inj.1
  rw [h, List.take_of_length_le hk]

theorem toI_ne {s : ByteArray} {i t : Nat} (h : toI s i = t) : i ≠ t := by
  intro e; subst e
  have hi := toI_in (s := s) (i := i) (by omega)
  rw [toI_nat (by omega)] at h
  unfold toN at h
  repeat' split at h
  all_goals omega
set_option maxHeartbeats 2000000 in
theorem specMove (s : ByteArray) (i t : Nat) (w : World) (hp : isPd s = true) (hT : toI s i = t) :
    Calls Tryd.prog 43 #[.string s, .int .i64 i] w fun e w' => e = .returned (.string (mvB s i t)) ∧ Below w.heap.size w w' := by
  obtain ⟨z1, z2, hal⟩ := isPd_in hp
  clear hal
  have hi := (toI_in (s := s) (i := i) (by omega)).2
  have hi' : i < s.size := by omega
  have ht := (toI_bd s i).2
  have ht' : t < s.size := by omega
  have hne := toI_ne hT
  have HP := Lib.hid hp
  have HT := Lib.hid hT
  have hlen : (mvL s.data.toList i t).length = s.size := by rw [mvL_len]; simp
  have hat : ∀ k, k < s.size → (mvL s.data.toList i t)[k]? = some (if t = k then s.data.toList.getD i 0 else if i = k then 46 else s.data.toList.getD k 0) := fun k hk => mvL_get (by simpa using hk) (by simpa using ht')
  have R := Lib.hid (show mvB s i t = ⟨(mvL s.data.toList i t).toArray⟩ from rfl)
  generalize mvL s.data.toList i t = l at *
  have HL := Lib.hid hlen
  have HA := Lib.hid hat
  clear hp hT hlen hat ht hi
  go_enter Tryd.func43, Tryd.ntmps43
  go_wp2_with (go_at_call 48; refine (specTo s i _ HP.out).mono ?_; rintro e w1 ⟨rfl, hb⟩; rw [HT.out])
  have hb1 := hb.size
  have HB1 := Lib.hid hb
  clear hb
  go_loopw [6] (fun out wr => ∃ (k : Nat) (o : ByteArray), k ≤ s.size ∧ out = .string o ∧ o.data.toList = l.take k ∧ wr.heap[w1.heap.size]? = some (.stringIter s k) ∧ Below w1.heap.size w1 wr) (fun _ wr => s.size - wr.iterPos w1.heap.size)
  case atStart =>
    refine ⟨0, ⟨#[]⟩, Nat.zero_le _, rfl, by simp, ?_, ?_⟩
    · have := World.iter_heap w1 s 0
      simpa using this
    · exact (Below.refl _ w1).alloc (Nat.le_refl _) _
  case round =>
    obtain ⟨k, o, hk, rfl, ho0, hit, hbw⟩ := hrel
    have hsz := pref_size hk HL.out ho0
    have HO := Lib.hid ho0
    clear ho0
    by_cases hlt : k < s.size
    · have hnx : ∀ ty, (Instr.next (.pointer (some ⟨w1.heap.size, 0, none⟩)) true ty).run Tryd.prog wr = _ := fun ty => Lib.run_next_ascii_at wr w1.heap.size s k ty hit hlt (sg_ascii HP.out hlt)
      have hit2 := Lib.iterAt_heap wr w1.heap.size s k (k + 1) hit
      have hbw2 := Lib.below_iterAt hbw (k := w1.heap.size) (Nat.le_refl _) s (k + 1)
      have HK := Lib.hid (HA.out k hlt)
      have HIT := Lib.hid hit2
      have HOLD := Lib.hid hit
      have hkl : k < l.length := by rw [HL.out]; exact hlt
      have b1 : o.size + 1 ≤ 100 := by omega
      by_cases hki : k = i
      · have S := Lib.hid (pref_step (q := ⟨#[46]⟩) (x := 46) (by rw [HK.out, if_neg (by omega), if_pos hki.symm]) HO.out rfl)
        clear HK hit hit2
        subst hki
        go_wp2
        go_roundw
        case rel => exact ⟨k + 1, _, by omega, rfl, S.out, HIT.out, hbw2⟩
        case measure => (simp only [World.iterPos, HIT.out, HOLD.out]; omega)
      by_cases hkt : k = t
      · have S := Lib.hid (pref_step (q := s.extract i (i + 1)) (by rw [HK.out, if_pos hkt.symm]) HO.out (one_at hi'))
        have h1 : ((k : Int) == (i : Int)) = false := by simp; omega
        clear HK hit hit2 hki
        subst hkt
        go_wp2
        go_roundw
        case rel => exact ⟨k + 1, _, by omega, rfl, S.out, HIT.out, hbw2⟩
        case measure => (simp only [World.iterPos, HIT.out, HOLD.out]; omega)
      · have S := Lib.hid (pref_step (q := s.extract k (k + 1)) (by rw [HK.out, if_neg (fun e => hkt e.symm), if_neg (fun e => hki e.symm)]) HO.out (one_at hlt))
        have h1 : ((k : Int) == (i : Int)) = false := by simp; omega
        have h2 : ((k : Int) == (t : Int)) = false := by simp; omega
        clear HK hit hit2 hki hkt
        go_wp2
        go_roundw
        case rel => exact ⟨k + 1, _, by omega, rfl, S.out, HIT.out, hbw2⟩
        case measure => (simp only [World.iterPos, HIT.out, HOLD.out]; omega)
    · have hnx : ∀ ty, (Instr.next (.pointer (some ⟨w1.heap.size, 0, none⟩)) true ty).run Tryd.prog wr = _ := fun ty => Lib.run_next_end_at wr w1.heap.size s k ty hit hlt
      go_wp2
      go_ret
      exact ⟨ret_v (by rw [R.out, pref_end (s := s) (by rw [HL.out]; omega) HO.out]; rfl), HB1.out.trans (hbw.mono hb1)⟩
end Go.Proofs.YteoggpollgkfiaaDoor
