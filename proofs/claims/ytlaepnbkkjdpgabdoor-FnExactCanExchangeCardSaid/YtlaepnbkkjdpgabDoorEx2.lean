/- ExchangeOf, spec and impl; slices.SortFunc at bytes by the library's own contract. -/
import Derived.Test.YtlaepnbkkjdpgabDoorShelfD
import Derived.Test.YtlaepnbkkjdpgabDoorPd
import Derived.Laws.IdiomStrings
import Derived.RegionTactic
import Derived.ChangeAlike
import Derived.BigRegion
import Derived.Outline
import Derived.WalkSmall
import Derived.Lib.SlBytesConst
namespace Go.Proofs.YtlaepnbkkjdpgabDoor
set_option linter.unusedVariables false
open Go.RowKit

/-- block b's first cells are these bytes, and may be written -/
def Byts (w : World) (b : Nat) (l : List UInt8) : Prop := ∀ j, j < l.length → w.cell? ⟨b, j, none⟩ = some (.int .u8 ((l.getD j 0).toNat : Int)) ∧ w.frozen? ⟨b, j, none⟩ = false

def kindAt (k : Nat) : UInt8 := if k = 0 then 108 else if k = 1 then 46 else 114
def sgTo (l : List UInt8) : Nat → List UInt8
  | 0 => []
  | k + 1 => sgTo l k ++ l.filter (fun c => c == kindAt k)
def exL (l : List UInt8) : List UInt8 := sgTo l 3
theorem sgTo_len (l : List UInt8) : ∀ k, (sgTo l k).length ≤ k * l.length
  | 0 => by simp [sgTo]
  | k + 1 => by
    have := sgTo_len l k
    have h2 := List.length_filter_le (fun c => c == kindAt k) l
    rw [sgTo, List.length_append, Nat.succ_mul]; omega
theorem exL_eq (l : List UInt8) : exL l = List.replicate (l.count 108) 108 ++ List.replicate (l.count 46) 46 ++ List.replicate (l.count 114) 114 := by
  show sgTo l 3 = _
  simp only [sgTo, List.nil_append, List.filter_beq]
  rfl
theorem exL_perm (l : List UInt8) (h : ∀ c ∈ l, c = 108 ∨ c = 46 ∨ c = 114) : (exL l).Perm l := by
  rw [exL_eq, List.perm_iff_count]
  intro a
  simp only [List.count_append, List.count_replicate]
  by_cases ha : a ∈ l
  · rcases h a ha with rfl | rfl | rfl <;> simp
  · have h0 : l.count a = 0 := List.count_eq_zero.2 ha
    rw [h0]
    by_cases e1 : a = 108
    · subst e1; simp [h0]
    by_cases e2 : a = 46
    · subst e2; simp [h0]
    by_cases e3 : a = 114
    · subst e3; simp [h0]
    · simp [Ne.symm e1, Ne.symm e2, Ne.symm e3]
def rk (c : UInt8) : Int := if c = 108 then 0 else if c = 46 then 1 else 2
theorem rk_bd (c : UInt8) : 0 ≤ rk c ∧ rk c ≤ 2 := by unfold rk; split <;> (try split) <;> omega
theorem exL_sorted (l : List UInt8) : (exL l).Pairwise (fun a b => rk a ≤ rk b) := by
  rw [exL_eq, List.pairwise_append, List.pairwise_append]
  refine ⟨⟨List.pairwise_replicate.2 (.inr (Int.le_refl _)), List.pairwise_replicate.2 (.inr (Int.le_refl _)), ?_⟩, List.pairwise_replicate.2 (.inr (Int.le_refl _)), ?_⟩
  · intro a ha b hb
    rw [(List.mem_replicate.1 ha).2, (List.mem_replicate.1 hb).2]; decide
  · intro a ha b hb
    rw [(List.mem_replicate.1 hb).2]
    rcases List.mem_append.1 ha with ha | ha <;> rw [(List.mem_replicate.1 ha).2] <;> decide
theorem sorted_is {l r : List UInt8} (h : ∀ c ∈ l, c = 108 ∨ c = 46 ∨ c = 114) (hp : r.Perm l) (hs : r.Pairwise (fun a b => rk a ≤ rk b)) : r = exL l := by
  refine List.Perm.eq_of_pairwise (le := fun a b => rk a ≤ rk b) ?_ hs (exL_sorted l) (hp.trans (exL_perm l h).symm)
  intro a b ha hb h1 h2
  rcases h a (hp.mem_iff.1 ha) with rfl | rfl | rfl <;> rcases h b ((exL_perm l h).mem_iff.1 hb) with rfl | rfl | rfl <;> first | rfl | (exact absurd h1 (by decide)) | (exact absurd h2 (by decide))
def exB (s : ByteArray) : ByteArray := ⟨(exL s.data.toList).toArray⟩
def exV (s : ByteArray) : Value := if isPd s then .tuple #[.string (exB s), .bool true] else .tuple #[.string ⟨#[]⟩, .bool false]
theorem exV_no {s : ByteArray} (h : isPd s = false) : exV s = .tuple #[.string ⟨#[]⟩, .bool false] := by simp [exV, h]
theorem exV_yes {s : ByteArray} (h : isPd s = true) : exV s = .tuple #[.string (exB s), .bool true] := by simp [exV, h]
theorem exV_form (a : ByteArray) : ∃ s x, exV a = .tuple #[.string s, .bool x] := by
  unfold exV; split <;> exact ⟨_, _, rfl⟩
theorem pd_signs {s : ByteArray} (h : isPd s = true) : ∀ c ∈ s.data.toList, c = 108 ∨ c = 46 ∨ c = 114 := by
  intro c hc
  obtain ⟨j, hj, rfl⟩ := List.getElem_of_mem hc
  have := (isPd_in h).2.2 j (by simpa using hj)
  rcases this with h | h | h
  · exact .inr (.inr ((toNat_eq_iff _ 114 (by omega)).1 h))
  · exact .inl ((toNat_eq_iff _ 108 (by omega)).1 h)
  · exact .inr (.inl ((toNat_eq_iff _ 46 (by omega)).1 h))

theorem exAscii {s : ByteArray} (h : isPd s = true) {k : Nat} (hk : k < s.size) : (s[k]'hk).toNat < 128 := by
  have := (isPd_in h).2.2 k hk
  unfold fsg at this; omega
theorem exOne {s : ByteArray} {k : Nat} (hk : k < s.size) : (s.extract k (k + 1)).data.toList = [s[k]] := by
  have e : k < s.data.toList.length := by simpa using hk
  rw [ByteArray.data_extract, Array.toList_extract, List.extract_eq_take_drop, show k + 1 - k = 1 from by omega, List.drop_eq_getElem_cons e]
  rfl
theorem ex_yes {s o : ByteArray} {i : Nat} {c : UInt8} {p : List UInt8} (hi : i < s.size) (h : o.data.toList = p ++ (s.data.toList.take i).filter (fun x => x == c)) (hc : (s[i].toNat : Int) = c.toNat) : (o ++ s.extract i (i + 1)).data.toList = p ++ (s.data.toList.take (i + 1)).filter (fun x => x == c) := by
  have e : i < s.data.toList.length := by simpa using hi
  have ec : s[i] = c := UInt8.toNat.inj (by omega)
  have e2 : s.data.toList[i] = c := ec
  rw [ByteArray.data_append, Array.toList_append, h, exOne hi, List.take_succ_eq_append_getElem e, List.filter_append, List.append_assoc, e2, ec]
  simp
theorem ex_no {s o : ByteArray} {i : Nat} {c : UInt8} {p : List UInt8} (hi : i < s.size) (h : o.data.toList = p ++ (s.data.toList.take i).filter (fun x => x == c)) (hc : ¬ (s[i].toNat : Int) = c.toNat) : o.data.toList = p ++ (s.data.toList.take (i + 1)).filter (fun x => x == c) := by
  have e : i < s.data.toList.length := by simpa using hi
  have e1 : i < s.data.size := hi
  have e2 : ¬ s.data[i] = c := fun e => hc (by rw [← e]; rfl)
  rw [h, List.take_succ_eq_append_getElem e, List.filter_append]
  simp [e2]
theorem ex_size {s o : ByteArray} {i k : Nat} {c : UInt8} (hk : k < 3) (hs : s.size ≤ 9) (h : o.data.toList = sgTo s.data.toList k ++ (s.data.toList.take i).filter (fun x => x == c)) : o.size ≤ 40 := by
  have := congrArg List.length h
  have h1 := sgTo_len s.data.toList k
  have h2 := List.length_filter_le (fun x => x == c) (s.data.toList.take i)
  have h3 : (s.data.toList.take i).length ≤ s.data.toList.length := List.length_take_le' _ _
  have h4 : s.data.toList.length = s.size := by simp
  have h5 : k * s.data.toList.length ≤ 3 * s.data.toList.length := Nat.mul_le_mul_right _ (by omega)
  rw [List.length_append, Array.length_toList] at this
  show o.data.size ≤ 40
  omega
theorem ex_end {o : ByteArray} {l : List UInt8} (h : o.data.toList = sgTo l 3) : o = ⟨(exL l).toArray⟩ := by
  apply ByteArray.ext
  apply Array.toList_inj.1
  simpa [exL] using h
theorem ex_round {s o : ByteArray} {k : Nat} (h : o.data.toList = sgTo s.data.toList k ++ (s.data.toList.take s.size).filter (fun x => x == kindAt k)) : o.data.toList = sgTo s.data.toList (k + 1) := by
  rw [h, List.take_of_length_le (by simp)]; rfl

set_option maxHeartbeats 2000000 in
theorem specFgEx (s : ByteArray) (w : World) (hp : isPd s = true) :
    Calls Tryd.prog 43 #[.string s] w fun e w' => e = .returned (.string (exB s)) ∧ Below w.heap.size w w' := by
  obtain ⟨z1, z2, hal⟩ := isPd_in hp
  clear hal
  have HP := Lib.hid hp
  clear hp
  have kc := fun (w : World) (C : Array Value) (n c : Nat) => Lib.run_convert_bytes_const (P := Tryd.prog) w 70 5 C n c Tryd.underlying70 Tryd.underlying5
  go_enter Tryd.func43, Tryd.ntmps43
  go_wp2_with fail
  go_loopw [3, 10] (fun out j wr => ∃ (k : Nat) (o : ByteArray), k ≤ 3 ∧ j = .int .i64 k ∧ out = .string o ∧ o.data.toList = sgTo s.data.toList k ∧ w.heap.size < wr.heap.size ∧ (∀ q, q < 3 → wr.cell? ⟨w.heap.size, q, none⟩ = some (.int .u8 ((kindAt q).toNat : Int))) ∧ Below w.heap.size w wr) (fun _ j _ => 3 - (intOf j).toNat)
  case atStart =>
    refine ⟨0, ⟨#[]⟩, by omega, rfl, rfl, by simp [sgTo], by simp, ?_, (Below.refl _ _).alloc (Nat.le_refl _) _⟩
    intro q hq
    rcases (show q = 0 ∨ q = 1 ∨ q = 2 by omega) with rfl | rfl | rfl <;> (rw [World.cell?_alloc_mark]; rfl)
  case round =>
    obtain ⟨k, o, hk, rfl, rfl, ho, hsz, hcs, hbw⟩ := hrel
    obtain ⟨W1, rfl⟩ : ∃ W1, W1 = wr := ⟨_, rfl⟩
    have HO := Lib.hid ho
    have HCS := Lib.hid hcs
    have HBW := Lib.hid hbw
    clear ho hcs hbw
    by_cases hlt : k < 3
    · have ck := HCS.out k hlt
      generalize hc : kindAt k = c at ck
      have HC := Lib.hid hc
      clear hc
      go_wp2
      go_loopw [3] (fun out w2 => ∃ (i : Nat) (o2 : ByteArray), i ≤ s.size ∧ out = .string o2 ∧ o2.data.toList = sgTo s.data.toList k ++ (s.data.toList.take i).filter (fun x => x == c) ∧ w2.heap[W1.heap.size]? = some (.stringIter s i) ∧ Below W1.heap.size W1 w2) (fun _ w2 => s.size - w2.iterPos W1.heap.size)
      case atStart =>
        refine ⟨0, o, Nat.zero_le _, rfl, by rw [HO.out]; simp, ?_, (Below.refl _ W1).alloc (Nat.le_refl _) _⟩
        have := World.iter_heap W1 s 0
        simpa using this
      case round =>
        obtain ⟨i, o2, hi, rfl, ho2, hit, hb2⟩ := hrel
        have hos := ex_size hlt z2 ho2
        have HO2 := Lib.hid ho2
        have HB2 := Lib.hid hb2
        clear ho2 hb2
        by_cases hlt2 : i < s.size
        · have hnx : ∀ ty, (Instr.next (.pointer (some ⟨W1.heap.size, 0, none⟩)) true ty).run Tryd.prog wr = _ := fun ty => Lib.run_next_ascii_at wr W1.heap.size s i ty hit hlt2 (exAscii HP.out hlt2)
          have hit2 := Lib.iterAt_heap wr W1.heap.size s i (i + 1) hit
          have hbw2 := Lib.hid (Lib.below_iterAt HB2.out (k := W1.heap.size) (Nat.le_refl _) s (i + 1))
          have HIT := Lib.hid hit2
          have HOLD := Lib.hid hit
          have b1 : o2.size + 1 ≤ 100 := by omega
          clear hit hit2
          by_cases hcc : (s[i].toNat : Int) = c.toNat
          · have S := Lib.hid (ex_yes hlt2 HO2.out hcc)
            go_wp2
            go_roundw
            case rel => exact ⟨i + 1, _, by omega, rfl, S.out, HIT.out, hbw2.out⟩
            case measure => (simp only [World.iterPos, HIT.out, HOLD.out]; omega)
          · have S := Lib.hid (ex_no hlt2 HO2.out hcc)
            have e1 : ((s[i].toNat : Int) == (c.toNat : Int)) = false := by simpa using hcc
            clear hcc
            go_wp2
            go_roundw
            case rel => exact ⟨i + 1, _, by omega, rfl, S.out, HIT.out, hbw2.out⟩
            case measure => (simp only [World.iterPos, HIT.out, HOLD.out]; omega)
        · have hnx : ∀ ty, (Instr.next (.pointer (some ⟨W1.heap.size, 0, none⟩)) true ty).run Tryd.prog wr = _ := fun ty => Lib.run_next_end_at wr W1.heap.size s i ty hit hlt2
          obtain rfl : i = s.size := by omega
          have S := Lib.hid (ex_round (s := s) (k := k) (o := o2) (by rw [HC.out]; exact HO2.out))
          go_wp2
          go_roundw
          case rel =>
            refine ⟨k + 1, _, by omega, by go_num, rfl, S.out, Nat.lt_of_lt_of_le hsz HB2.out.size, fun q hq => ?_, HBW.out.trans (HB2.out.mono (Nat.le_of_lt hsz))⟩
            rw [HB2.out.cell hsz]; exact HCS.out q hq
          case measure => (simp [intOf]; try omega)
    · obtain rfl : k = 3 := by omega
      go_wp2
      go_ret
      exact ⟨ret_v (by rw [ex_end HO.out]; rfl), HBW.out⟩


theorem rank (c : UInt8) (w : World) :
    Calls Tryd.prog 65 #[.int .u8 (c.toNat : Int)] w fun e w' => e = .returned (.int .i64 (rk c)) ∧ w = w' := by
  by_cases h1 : (c.toNat : Int) = 108
  · have R := Lib.hid (show rk c = 0 by rw [(toNat_eq_iff c 108 (by omega)).1 h1]; rfl)
    go_enter Tryd.func65, Tryd.ntmps65
    go_wp2
    go_ret
    exact ⟨ret_v (by rw [R.out]; rfl), rfl⟩
  · have e1 : ((c.toNat : Int) == 108) = false := by simpa using h1
    by_cases h2 : (c.toNat : Int) = 46
    · have R := Lib.hid (show rk c = 1 by rw [(toNat_eq_iff c 46 (by omega)).1 h2]; rfl)
      go_enter Tryd.func65, Tryd.ntmps65
      go_wp2
      go_ret
      exact ⟨ret_v (by rw [R.out]; rfl), rfl⟩
    · have e2 : ((c.toNat : Int) == 46) = false := by simpa using h2
      have R := Lib.hid (show rk c = 2 by
        unfold rk
        rw [if_neg (show ¬ c = 108 from fun e => h1 ((toNat_eq_iff c 108 (by omega)).2 e)), if_neg (show ¬ c = 46 from fun e => h2 ((toNat_eq_iff c 46 (by omega)).2 e))])
      go_enter Tryd.func65, Tryd.ntmps65
      go_wp2
      go_ret
      exact ⟨ret_v (by rw [R.out]; rfl), rfl⟩

def encU (c : UInt8) : Value := .int .u8 (c.toNat : Int)
def cfU (x y : UInt8) : Int := rk x - rk y
theorem closure (x y : UInt8) (W : World) : Calls Tryd.prog 64 #[.int .u8 (x.toNat : Int), .int .u8 (y.toNat : Int)] W fun e w' => e = .returned (.int .i64 (cfU x y)) ∧ ∃ q, w' = W.drewN q := by
  have hx := rk_bd x
  have hy := rk_bd y
  have HX := Lib.hid (rank x)
  have HY := Lib.hid (rank y)
  have R := Lib.hid (show cfU x y = rk x - rk y from rfl)
  generalize rk x = a at *
  generalize rk y = b at *
  go_enter Tryd.func64, Tryd.ntmps64
  go_wp2_with (first
    | (go_at_call 65; (with_reducible refine (HX.out _).mono ?_); rintro e w' ⟨rfl, rfl⟩)
    | (go_at_call 65; (with_reducible refine (HY.out _).mono ?_); rintro e w' ⟨rfl, rfl⟩))
  go_ret
  exact ⟨ret_v (by rw [R.out]; rfl), 0, rfl⟩
theorem ltU (x y : UInt8) : ltOf cfU x y = decide (rk x < rk y) := by
  unfold ltOf cfU
  by_cases h : rk x < rk y
  · rw [decide_eq_true h, decide_eq_true (by omega)]
  · rw [decide_eq_false h, decide_eq_false (by omega)]
theorem swoU : Go.Sort.SWO (ltOf cfU) := {
  irrefl := fun x => by rw [ltU]; simp
  trans := fun x y z h1 h2 => by rw [ltU] at *; simp at *; omega
  ntrans := fun x y z h1 h2 => by rw [ltU] at *; simp at *; omega }
theorem lenU (n : Nat) (W : World) (h : n ≤ 12) : Calls Tryd.prog 70 #[.int .u64 n] W fun e w' => (∃ l : Int, e = .returned (.int .i64 l)) ∧ w' = W :=
  (Any.bits_Len Tryd.bitsLay n W (by omega) (by omega)).mono fun _ _ ⟨he, hw⟩ => ⟨⟨_, he⟩, hw⟩
theorem byts_holds {w : World} {b : Nat} {d : Array UInt8} (h : Byts w b d.toList) : Go.Sort.Holds encU w b 0 d := by
  intro j hj
  have := h j (by simpa using hj)
  rw [Nat.zero_add]
  refine ⟨?_, this.2⟩
  rw [this.1, getElem!_pos d j hj]
  simp [encU, List.getD_eq_getElem?_getD, hj]
theorem holds_byts {w : World} {b : Nat} {d : Array UInt8} (h : Go.Sort.Holds encU w b 0 d) : Byts w b d.toList := by
  intro j hj
  have hj' : j < d.size := by simpa using hj
  have := h j hj'
  rw [Nat.zero_add] at this
  refine ⟨?_, this.2⟩
  rw [this.1, getElem!_pos d j hj']
  simp [encU, List.getD_eq_getElem?_getD, hj']
theorem sortF (b cap : Nat) (d : Array UInt8) (w : World) (h : Byts w b d.toList) (hl : d.size ≤ 9) (hs : ∀ c ∈ d.toList, c = 108 ∨ c = 46 ∨ c = 114) :
    Calls Tryd.prog 63 #[.slice (some ⟨b, 0, none⟩) d.size cap, .func (.func 64) #[] #[]] w fun e w' => e = .returned (.tuple #[]) ∧ Byts w' b (exL d.toList) ∧ ∀ B, B ≤ b → Below B w w' := by
  have eg : ∀ args w, (callFunc 64 args).run Tryd.prog w = .ok (.enter 64 args) w := enters_of Tryd.func64 (by kernel_rfl) rfl
  have hH := byts_holds h
  have hcon := Any.slices_SortFunc_small_sorted Tryd.sortLay encU (fun _ => rfl) cfU swoU 64 #[] b 0 cap d w eg (fun _ _ _ _ x y => closure x y _) hH (by omega) lenU
  refine Calls.mono hcon ?_
  rintro e w' ⟨he, d', n, hp, hso, rfl⟩
  have hsz : d'.size = d.size := hp.1
  refine ⟨he, ?_, fun B hB => ?_⟩
  · have e1 : d'.toList = exL d.toList := by
      refine sorted_is hs ?_ ?_
      · have := hp.2.2
        rw [Array.extract_eq_self_of_le (by omega), Array.extract_eq_self_of_le (Nat.le_refl _)] at this
        exact this
      · rw [List.pairwise_iff_getElem]
        intro i j hi hj hij
        have hi' : i < d'.size := by simpa using hi
        have hj' : j < d'.size := by simpa using hj
        have := hso i j (Nat.zero_le _) hij (by omega)
        rw [ltU, getElem!_pos d' j hj', getElem!_pos d' i hi'] at this
        have := of_decide_eq_false this
        simp only [Array.getElem_toList]
        omega
    rw [← e1]
    exact holds_byts (Go.Sort.holds_putRow encU w b 0 d d' hH hsz)
  · refine ⟨rfl, rfl, rfl, by simp, fun k hk => ?_⟩
    show (Go.Sort.putRow encU w b 0 d').heap[k]? = _
    simp only [Go.Sort.putRow, Go.Sort.mapBlock, Array.getElem?_modify]
    rw [if_neg (by omega)]

theorem back (w : World) (b x n : Nat) (r : List UInt8) (h : Byts w b r) (hn : r.length = n) :
    (convert 70 9 (.slice (some ⟨b, 0, none⟩) n x)).run Tryd.prog w = .ok (.string ⟨r.toArray⟩) w := by
  subst hn
  refine run_convert_bytes_back (P := Tryd.prog) w 70 9 5 ⟨b, 0, none⟩ x r Tryd.underlying70 Tryd.underlying5 Tryd.underlying9 fun j hj => ?_
  have := (h j hj).1
  have ea : (⟨b, 0, none⟩ : Addr).add j = ⟨b, j, none⟩ := by simp [Addr.add]; omega
  rw [ea, this, List.getD_eq_getElem?_getD, List.getElem?_eq_getElem hj]; rfl

set_option maxHeartbeats 4000000 in
theorem implEx (s : ByteArray) (w : World) (hs : s.size ≤ 1048576) :
    Calls Tryd.prog 44 #[.string s] w fun e w' => e = .returned (exV s) ∧ Below w.heap.size w w' := by
  cases h1 : isPd s
  · have J := Lib.hid (exV_no h1)
    have G := Lib.hid h1
    clear h1
    go_enter Tryd.func44, Tryd.ntmps44
    go_wp2_with (go_at_call 46; refine (implIsPond _ _ (by unfold maxLen; omega)).mono ?_; rintro e w' ⟨rfl, rfl⟩; rw [G.out])
    go_ret2
    exact ⟨ret_v J.out.symm, Below.refl _ _⟩
  · have J := Lib.hid (exV_yes h1)
    have hsg := pd_signs h1
    obtain ⟨z1, z2, hal⟩ := isPd_in h1
    have hcv := run_bytes_of_string (P := Tryd.prog) w 9 70 5 s Tryd.underlying9 Tryd.underlying70 Tryd.underlying5
    generalize grownCap w s.size 0 5 = cap at hcv
    obtain ⟨C, hC⟩ : ∃ C, C = bytesRow s cap := ⟨_, rfl⟩
    rw [← hC] at hcv
    have hB0 : Byts (w.alloc (.cells C 5 (C.size, C.size + 1))).drew w.heap.size s.data.toList := by
      intro j hj
      have hj' : j < s.data.size := by simpa using hj
      refine ⟨?_, ?_⟩
      · show (w.alloc (.cells C 5 (C.size, C.size + 1))).cell? _ = _
        rw [World.cell?_alloc_mark, hC, bytesRow_at s cap j hj', List.getD_eq_getElem?_getD, List.getElem?_eq_getElem hj]; rfl
      · show (w.alloc (.cells C 5 (C.size, C.size + 1))).frozen? _ = _
        have hCs : s.size ≤ C.size := by rw [hC]; simp [bytesRow]
        have hj2 : j < s.size := hj'
        rw [World.frozen?_alloc_mark]; simp; omega
    have hbA : Below w.heap.size w (w.alloc (.cells C 5 (C.size, C.size + 1))).drew := ((Below.refl _ _).alloc (Nat.le_refl _) _).drew
    have hso : Calls Tryd.prog 63 #[.slice (some ⟨w.heap.size, 0, none⟩) s.size cap, .func (.func 64) #[] #[]] _ _ := sortF w.heap.size cap s.data _ hB0 z2 hsg
    have hel : (exL s.data.toList).length = s.size := by rw [(exL_perm _ hsg).length_eq]; simp
    have HE := Lib.hid (show exB s = ⟨(exL s.data.toList).toArray⟩ from rfl)
    generalize exL s.data.toList = r at *
    have G := Lib.hid h1
    have HBA := Lib.hid hbA
    have HSO := Lib.hid hso
    have HEL := Lib.hid hel
    clear h1 hB0 hbA hC hal hso hsg hel
    go_enter Tryd.func44, Tryd.ntmps44
    go_wp2_with (first
      | (go_at_call 46; refine (implIsPond _ _ (by unfold maxLen; omega)).mono ?_; rintro e w' ⟨rfl, rfl⟩; rw [G.out])
      | (go_at_call 63; refine HSO.out.mono ?_; rintro e w1 ⟨rfl, hB1, hb1⟩; have HBB := Lib.hid (HBA.out.trans (hb1 _ (Nat.le_refl _))); have hb := back w1 w.heap.size cap s.size r hB1 HEL.out; clear hb1 hB1))
    go_ret2
    exact ⟨ret_v (by rw [J.out, HE.out]; rfl), HBB.out⟩
end Go.Proofs.YtlaepnbkkjdpgabDoor
