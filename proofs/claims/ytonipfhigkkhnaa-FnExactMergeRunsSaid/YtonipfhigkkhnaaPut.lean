
/- The program's writer of records: a byte, a record. Only the writer's position, the bytes behind it and new blocks change. -/
import Derived.Test.YtonipfhigkkhnaaRs
import Derived.StillTailTactics
import Derived.Deep.RegionLaw
import Derived.Lib.LazyBuf
import Derived.Deep.DeepCutAuto
namespace Go.Proofs.Ytonipfhigkkhnaa
open Go.ChangeShapes Go.WideShapes Go.ChangeAt Go.RowKit
set_option linter.unusedVariables false
set_option maxRecDepth 100000

/-- The writer is block b, its bytes are row g, S of them; it stands at place p. -/
structure Wr (w : World) (b g S p : Nat) (cur : Array Value) : Prop where
  rdr : Row w b 78 #[.slice (some ⟨g, 0, none⟩) S S, .int .i64 p]
  row : Row w g 5 cur
  size : cur.size = S
  ne : b ≠ g

/-- Only blocks b and g have changed, and new ones are there. -/
structure Two (b g : Nat) (w w' : World) : Prop where
  os : w'.os = w.os
  tape : w'.tape = w.tape
  output : w'.output = w.output
  size : w.heap.size ≤ w'.heap.size
  block : ∀ k, k < w.heap.size → k ≠ b → k ≠ g → w'.heap[k]? = w.heap[k]?
theorem Two.refl (b g : Nat) (w : World) : Two b g w w := ⟨rfl, rfl, rfl, Nat.le_refl _, fun _ _ _ _ => rfl⟩
theorem Two.trans {b g : Nat} {w w1 w2 : World} (h : Two b g w w1) (k : Two b g w1 w2) : Two b g w w2 :=
  ⟨k.os.trans h.os, k.tape.trans h.tape, k.output.trans h.output, Nat.le_trans h.size k.size, fun i hi h1 h2 => (k.block i (Nat.lt_of_lt_of_le hi h.size) h1 h2).trans (h.block i hi h1 h2)⟩
theorem Two.below {b g : Nat} {w w1 w2 : World} (h : Two b g w w1) (k : Below w1.heap.size w1 w2) : Two b g w w2 :=
  ⟨k.os.trans h.os, k.tape.trans h.tape, k.output.trans h.output, Nat.le_trans h.size k.size, fun i hi h1 h2 => (k.block i (Nat.lt_of_lt_of_le hi h.size)).trans (h.block i hi h1 h2)⟩
theorem Two.setB {b g : Nat} {w w1 : World} (h : Two b g w w1) (j : Nat) (v : Value) : Two b g w (w1.setCell ⟨b, j, none⟩ v) :=
  ⟨h.os, h.tape, h.output, by have := h.size; simpa [World.setCell] using this, fun k hk h1 h2 => (Below.heap_setCell _ _ _ _ h1).trans (h.block k hk h1 h2)⟩
theorem Two.setG {b g : Nat} {w w1 : World} (h : Two b g w w1) (j : Nat) (v : Value) : Two b g w (w1.setCell ⟨g, j, none⟩ v) :=
  ⟨h.os, h.tape, h.output, by have := h.size; simpa [World.setCell] using this, fun k hk h1 h2 => (Below.heap_setCell _ _ _ _ h2).trans (h.block k hk h1 h2)⟩
theorem Two.setCells {b g : Nat} {w : World} : ∀ (vs : List Value) (o : Nat) (w1 : World), Two b g w w1 → Two b g w (w1.setCells g o vs)
  | [], _, _, h => h
  | v :: r, o, w1, h => Two.setCells r (o + 1) _ (h.setG o v)
theorem Two.toBelow {b g B : Nat} {w0 w w' : World} (h : Two b g w w') (hB : Below B w0 w) (h1 : B ≤ b) (h2 : B ≤ g) (h3 : B ≤ w.heap.size) : Below B w0 w' :=
  ⟨h.os.trans hB.os, h.tape.trans hB.tape, h.output.trans hB.output, Nat.le_trans hB.size h.size, fun k hk => (h.block k (Nat.lt_of_lt_of_le hk h3) (by omega) (by omega)).trans (hB.block k hk)⟩
theorem Row.two {w w1 : World} {B b g : Nat} {E : TypeId} {cur : Array Value} (h : Row w B E cur) (hT : Two b g w w1) (h1 : B ≠ b) (h2 : B ≠ g) : Row w1 B E cur := (hT.block B h.lt h1 h2).trans h

/-- The end of a method of the writer that has no result. -/
def MadePut (b g S p : Nat) (cur : Array Value) (w : World) (e : Ending) (w' : World) : Prop :=
  e = .returned (.tuple #[]) ∧ Wr w' b g S p cur ∧ Two b g w w'

theorem Wr.keep {w w1 : World} {b g S p : Nat} {cur : Array Value} (h : Wr w b g S p cur) (hB : Below w.heap.size w w1) : Wr w1 b g S p cur := ⟨h.rdr.keep hB, h.row.keep hB, h.size, h.ne⟩
theorem Wr.step {w : World} {b g S p : Nat} {cur : Array Value} (h : Wr w b g S p cur) (x : Value) (q : Int) (n : Nat) (hq : q = (n : Int)) : Wr ((w.setCell ⟨g, p, none⟩ x).setCell ⟨b, 1, none⟩ (.int .i64 q)) b g S n (cur.setIfInBounds p x) := by
  subst hq
  exact ⟨((h.rdr.other h.ne p x).set 1 (.int .i64 n) :), (h.row.set p x).other (Ne.symm h.ne) 1 _, by simpa using h.size, h.ne⟩

set_option maxHeartbeats 2000000 in
theorem putbyte_any (b g S p : Nat) (cur : Array Value) (x : Int) (w : World) (h : Wr w b g S p cur) (hp : p < S) (hS : S ≤ 1048576) :
    Calls Try.prog 94 #[.pointer (some ⟨b, 0, none⟩), .int .u8 x] w (MadePut b g S (p + 1) (cur.setIfInBounds p (.int .u8 x)) w) := by
  obtain ⟨w2, hw2⟩ : ∃ w2, w.drew = w2 := ⟨_, rfl⟩
  have h2 : Wr w2 b g S p cur := hw2 ▸ h.keep (Below.refl _ _).drew
  have HB2 := Lib.hid (show Below w.heap.size w w2 from hw2 ▸ (Below.refl _ _).drew)
  have c0 : w.cell? ⟨b, 0, none⟩ = some (.slice (some ⟨g, 0, none⟩) S S) := h.rdr.cell (j := 0) (by simp)
  have c1 : w.cell? ⟨b, 1, none⟩ = some (.int .i64 p) := h.rdr.cell (j := 1) (by simp)
  have d1 : w2.cell? ⟨b, 1, none⟩ = some (.int .i64 p) := h2.rdr.cell (j := 1) (by simp)
  have f1 := h2.rdr.free 1
  have g0 := h2.row.cell (j := p) (by rw [h2.size]; exact hp)
  have f2 := h2.row.free p
  have H := Lib.hid h
  have H2 := Lib.hid h2
  have HW2 := Lib.hid hw2
  have hne := h.ne
  have hne2 := Ne.symm h.ne
  generalize cur[p]'(by rw [h2.size]; exact hp) = x0 at g0
  have hi0 : (0 : Int) ≤ (p : Int) := by omega
  have hi1 : (p : Int) < (S : Int) := by omega
  clear h h2 hw2
  go_enter Try.func94, Try.ntmps94
  go_wp2_with fail
  go_still_tail 10, (by kernel_rfl)
  change wpList _ _ _ _ _ w.drew
  rw [HW2.out]
  go_wp2
  go_end0
  exact ⟨rfl, H2.out.step _ _ _ (by omega), (((Two.refl b g w).below HB2.out).setG _ _).setB _ _⟩

/-- The first cells of the row are the numbers X. -/
def Pre (cur : Array Value) (X : List Int) : Prop := ∀ i (h : i < X.length), cur[i]? = some (.int .u8 X[i])
theorem pre_set {cur : Array Value} {X : List Int} (h : Pre cur X) (hs : X.length < cur.size) (x : Int) : Pre (cur.setIfInBounds X.length (.int .u8 x)) (X ++ [x]) := by
  intro i hi
  simp at hi
  rcases Nat.lt_or_ge i X.length with hl | hl
  · rw [Array.getElem?_setIfInBounds_ne (by omega), h i hl, List.getElem_append_left hl]
  · obtain rfl : i = X.length := by omega
    simp [hs]
def putAll : List Value → Nat → Array Value → Array Value
  | [], _, cur => cur
  | v :: r, o, cur => putAll r (o + 1) (cur.setIfInBounds o v)
theorem putAll_size : ∀ (vs : List Value) (o : Nat) (cur : Array Value), (putAll vs o cur).size = cur.size
  | [], _, _ => rfl
  | v :: r, o, cur => by rw [putAll, putAll_size r]; simp
theorem row_setCells {E : TypeId} {g : Nat} : ∀ (vs : List Value) (o : Nat) (w : World) (cur : Array Value), Row w g E cur → Row (w.setCells g o vs) g E (putAll vs o cur)
  | [], _, _, _, h => h
  | v :: r, o, w, cur, h => row_setCells r (o + 1) _ _ (h.set o v)
theorem row_setCells_other {E : TypeId} {b g : Nat} (hne : b ≠ g) : ∀ (vs : List Value) (o : Nat) (w : World) (cur : Array Value), Row w b E cur → Row (w.setCells g o vs) b E cur
  | [], _, _, _, h => h
  | v :: r, o, w, cur, h => row_setCells_other hne r (o + 1) _ _ (h.other hne o v)
def ints (l : List UInt8) : List Int := l.map fun x => (x.toNat : Int)
theorem pre_putAll : ∀ (l : List UInt8) (cur : Array Value) (X : List Int), Pre cur X → X.length + l.length ≤ cur.size → Pre (putAll (l.map fun x => Value.int .u8 (x.toNat : Int)) X.length cur) (X ++ ints l)
  | [], cur, X, h, _ => by simpa [putAll, ints] using h
  | c :: l, cur, X, h, hs => by
    have h1 := pre_set h (by simp at hs; omega) (c.toNat : Int)
    have h2 := pre_putAll l _ _ h1 (by simp at hs ⊢; omega)
    simp only [List.map_cons, putAll, ints, List.length_append, List.length_cons, List.length_nil] at h2 ⊢
    simpa using h2

theorem row_cellP {w : World} {B : Nat} {E : TypeId} {cur : Array Value} {j : Nat} {v : Value} (h : Row w B E cur) (e : cur[j]? = some v) : w.cell? ⟨B, j, none⟩ = some v := by
  unfold Row at h; simp [World.cell?, h, e]
/-- The writer has written X. -/
def WrX (w : World) (b g S : Nat) (X : List Int) : Prop := ∃ cur, Wr w b g S X.length cur ∧ Pre cur X
theorem WrX.keep {w w1 : World} {b g S : Nat} {X : List Int} (h : WrX w b g S X) (hB : Below w.heap.size w w1) : WrX w1 b g S X := by
  obtain ⟨cur, h1, h2⟩ := h
  exact ⟨cur, h1.keep hB, h2⟩
def MadePutX (b g S : Nat) (X : List Int) (w : World) (e : Ending) (w' : World) : Prop :=
  e = .returned (.tuple #[]) ∧ WrX w' b g S X ∧ Two b g w w'
theorem putbyteX (b g S : Nat) (X : List Int) (x : Int) (w : World) (h : WrX w b g S X) (hp : X.length < S) (hS : S ≤ 1048576) :
    Calls Try.prog 94 #[.pointer (some ⟨b, 0, none⟩), .int .u8 x] w (MadePutX b g S (X ++ [x]) w) := by
  obtain ⟨cur, h1, h2⟩ := h
  refine (putbyte_any b g S X.length cur x w h1 hp hS).mono ?_
  rintro e w' ⟨he, hw, hB⟩
  exact ⟨he, ⟨_, by simpa using hw, pre_set h2 (by rw [h1.size]; exact hp) x⟩, hB⟩

theorem WrX.copied {w : World} {b g S p : Nat} {X : List Int} {cur : Array Value} {s : ByteArray} (h : Wr w b g S p cur) (hp : Pre cur X) (hX : X.length = p) (hs : p + s.size ≤ S) :
    WrX ((w.setCells g p (s.data.toList.map fun x => Value.int .u8 (x.toNat : Int))).setCell ⟨b, 1, none⟩ (.int .i64 ((p : Int) + (s.size : Int)))) b g S (X ++ ints s.data.toList) := by
  have hl : (X ++ ints s.data.toList).length = p + s.size := by simp [ints, hX]
  have hpre := pre_putAll s.data.toList cur X hp (by rw [h.size]; simp; omega)
  rw [hX] at hpre
  refine ⟨_, ⟨?_, (row_setCells _ p w cur h.row).other (Ne.symm h.ne) 1 _, by rw [putAll_size]; exact h.size, h.ne⟩, hpre⟩
  rw [hl]
  have := (row_setCells_other h.ne (s.data.toList.map fun x => Value.int .u8 (x.toNat : Int)) p w _ h.rdr).set 1 (.int .i64 ((p : Int) + (s.size : Int)))
  have e : ((p + s.size : Nat) : Int) = (p : Int) + (s.size : Int) := by omega
  rw [e]
  exact this

def wordK (n : Int) : Nat → Int
  | 0 => IntKind.u64.wrap n
  | k + 1 => wordK n k / 256
def bytesK (n : Int) : Nat → List Int
  | 0 => []
  | k + 1 => bytesK n k ++ [wordK n k % 256]
theorem bytesK_len (n : Int) : ∀ k, (bytesK n k).length = k
  | 0 => rfl
  | k + 1 => by simp [bytesK, bytesK_len n k]
/-- The bytes of a record. -/
def recN (s : ByteArray) (n : Int) : List Int := [(s.size : Int)] ++ ints s.data.toList ++ bytesK n 8
theorem recN_len (s : ByteArray) (n : Int) : (recN s n).length = s.size + 9 := by simp [recN, ints, bytesK_len]

set_option maxHeartbeats 4000000 in
theorem putrec_any (b g S : Nat) (X : List Int) (s : ByteArray) (n : Int) (w : World) (h : WrX w b g S X) (hp : X.length + s.size + 9 ≤ S) (hS : S ≤ 1048576) (hs : s.size ≤ 40) :
    Calls Try.prog 71 #[.pointer (some ⟨b, 0, none⟩), .agg #[.string s, .int .i64 n]] w (MadePutX b g S (X ++ recN s n) w) := by
  have H := Lib.hid h
  have hbl : b < w.heap.size := by obtain ⟨cur, h1, _⟩ := h; exact h1.rdr.lt
  have hgl : g < w.heap.size := by obtain ⟨cur, h1, _⟩ := h; exact h1.row.lt
  have HBL := Lib.hid (And.intro hbl hgl)
  obtain ⟨p, hpx⟩ : ∃ p, X.length = p := ⟨_, rfl⟩
  rw [hpx] at hp
  have HPX := Lib.hid hpx
  clear h hbl hgl hpx
  go_enter Try.func71, Try.ntmps71
  go_wp2_with fail
  refine (putbyteX b g S X _ _ (H.out.keep (below_alloc (Below.refl _ _) _)) (by rw [HPX.out]; omega) hS).mono ?_
  rintro e w2 ⟨rfl, hw, hT⟩
  have hbox : Row w2 w.heap.size 33 #[.string s, .int .i64 n] := (Row.new w 33 #[.string s, .int .i64 n]).two hT (Nat.ne_of_gt HBL.out.1) (Nat.ne_of_gt HBL.out.2)
  have HBOX := Lib.hid hbox
  have HT := Lib.hid (((Two.refl b g w).below (below_alloc (Below.refl _ _) _)).trans hT)
  have HW := Lib.hid hw
  obtain ⟨cur, hwr, hpre⟩ := hw
  rw [List.length_append, List.length_singleton, HPX.out] at hwr
  have HWR := Lib.hid hwr
  have HPRE := Lib.hid hpre
  have b0 : w2.cell? ⟨w.heap.size, 0, none⟩ = some (.string s) := hbox.cell (j := 0) (by simp)
  have b1 : w2.cell? ⟨w.heap.size, 1, none⟩ = some (.int .i64 n) := hbox.cell (j := 1) (by simp)
  have c0 : w2.cell? ⟨b, 0, none⟩ = some (.slice (some ⟨g, 0, none⟩) S S) := hwr.rdr.cell (j := 0) (by simp)
  have c1 : w2.cell? ⟨b, 1, none⟩ = some (.int .i64 ((p + 1 : Nat) : Int)) := hwr.rdr.cell (j := 1) (by simp)
  have f1 := hwr.rdr.free 1
  have HCELL := Lib.hid (show ∀ j, j < s.size → (w2.drew.cell? ⟨g, p + 1 + j, none⟩).isSome = true from fun j hj => by
    have := (hwr.keep (Below.refl _ _).drew).row.cell (j := p + 1 + j) (by rw [hwr.size]; omega)
    rw [this]; rfl)
  have HFREE := Lib.hid (show ∀ j, j < s.size → w2.drew.frozen? ⟨g, p + 1 + j, none⟩ = false from fun j hj => (hwr.keep (Below.refl _ _).drew).row.free _)
  obtain ⟨q, hq⟩ : ∃ q, p + 1 = q := ⟨_, rfl⟩
  have hrb := row_setCells_other hwr.ne (s.data.toList.map fun x => Value.int .u8 (x.toNat : Int)) q _ _ (hwr.keep (Below.refl _ _).drew).rdr
  have k1 : (w2.drew.setCells g q (s.data.toList.map fun x => Value.int .u8 (x.toNat : Int))).cell? ⟨b, 1, none⟩ = some (.int .i64 ((p + 1 : Nat) : Int)) := hrb.cell (j := 1) (by simp)
  have k2 := hrb.free 1
  have HRB := Lib.hid hrb
  rw [hq] at c1 k1 HCELL HFREE HRB
  clear hrb
  have i0 : (0 : Int) ≤ (q : Int) := by omega
  have i1 : (q : Int) ≤ (S : Int) := by omega
  have i2 : ¬ (S = q) := by omega
  have i3 : (q : Int) + (s.size : Int) ≤ (S : Int) := by omega
  have HQ := Lib.hid hq
  have hne := hwr.ne
  clear hT hbox hwr hpre hq
  have HTD := Lib.hid (HT.out.below ((Below.refl w2.heap.size w2).drew))
  have HBX := Lib.hid (HBOX.out.keep (Below.refl w2.heap.size w2).drew)
  have HWD := Lib.hid (HWR.out.keep (Below.refl w2.heap.size w2).drew)
  go_upto_region 2 with fail
  go_cut [0, 3] (fun s0 s3 wx => s0 = .pointer (some ⟨b, 0, none⟩) ∧ s3 = .pointer (some ⟨w.heap.size, 0, none⟩) ∧ Hid (Row wx w.heap.size 33 #[.string s, .int .i64 n] ∧ WrX wx b g S (X ++ [(s.size : Int)] ++ ints s.data.toList) ∧ Two b g w wx))
  case first =>
    have hwq : IntKind.i64.wrap ((q : Int) + (s.size : Int)) = (q : Int) + (s.size : Int) := IntWalk.i64_in _ (by omega)
    have HE := Lib.hid (show Hid (Row ((w2.drew.setCells g q (s.data.toList.map fun x => Value.int .u8 (x.toNat : Int))).setCell ⟨b, 1, none⟩ (.int .i64 ((q : Int) + (s.size : Int)))) w.heap.size 33 #[.string s, .int .i64 n] ∧ WrX ((w2.drew.setCells g q (s.data.toList.map fun x => Value.int .u8 (x.toNat : Int))).setCell ⟨b, 1, none⟩ (.int .i64 ((q : Int) + (s.size : Int)))) b g S (X ++ [(s.size : Int)] ++ ints s.data.toList) ∧ Two b g w ((w2.drew.setCells g q (s.data.toList.map fun x => Value.int .u8 (x.toNat : Int))).setCell ⟨b, 1, none⟩ (.int .i64 ((q : Int) + (s.size : Int))))) from
      ⟨(row_setCells_other (Nat.ne_of_gt HBL.out.2) _ _ _ _ HBX.out).other (Nat.ne_of_gt HBL.out.1) 1 _,
       WrX.copied (by have := HWD.out; rw [HQ.out] at this; exact this) HPRE.out (by rw [List.length_append, List.length_singleton, HPX.out, HQ.out]) (by omega),
       (Two.setCells _ _ _ HTD.out).setB _ _⟩)
    go_region_law (refine step_copy_string rfl (.tmp 24) (.tmp 26) 22 9 rfl 5 Try.underlying22 (fun _ => by kernel_rfl) g q (S - q) (S - q) (by first | (simp [Act.eval]; done) | (simp [Act.eval, Act.put]; done)) s (by first | (simp [Act.eval]; done) | (simp [Act.eval, Act.put]; done)) (by omega) HCELL.out HFREE.out ?_)
    all_goals (go_wp2_with fail; go_meet; first | exact ⟨rfl, rfl, HE.out⟩ | (case rel => exact ⟨rfl, rfl, HE.out⟩))
  case rest =>
    obtain ⟨rfl, rfl, HC⟩ := hcut
    have d1 : wc.cell? ⟨w.heap.size, 1, none⟩ = some (.int .i64 n) := HC.out.1.cell (j := 1) (by simp)
    have HC2 := Lib.hid HC.out.2
    have HLX := Lib.hid (show (X ++ [(s.size : Int)] ++ ints s.data.toList).length = p + 1 + s.size by simp [ints, HPX.out]; omega)
    clear HC
    go_wp2
    go_loopw [4, 5] (fun x i wr => ∃ k : Nat, k ≤ 8 ∧ i = .int .i64 k ∧ x = .int .u64 (wordK n k) ∧ Hid (WrX wr b g S (X ++ [(s.size : Int)] ++ ints s.data.toList ++ bytesK n k) ∧ Two b g w wr)) (fun _ i _ => 8 - (intOf i).toNat)
    case atStart => exact ⟨0, by omega, rfl, rfl, by rw [show bytesK n 0 = [] from rfl, List.append_nil]; exact HC2.out.1, HC2.out.2⟩
    case round =>
      obtain ⟨k, hk, rfl, rfl, HW⟩ := hrel
      by_cases hlt : k < 8
      · have HS := Lib.hid (show wordK n (k + 1) = wordK n k / 256 from rfl)
        have HS2 := Lib.hid (show bytesK n (k + 1) = bytesK n k ++ [wordK n k % 256] from rfl)
        have HLY := Lib.hid (show (X ++ [(s.size : Int)] ++ ints s.data.toList ++ bytesK n k).length = p + 1 + s.size + k by rw [List.length_append, HLX.out, bytesK_len])
        have HW2 := Lib.hid HW.out.2
        generalize hY : bytesK n k = Y at HS2 HLY HW
        generalize hZ : wordK n k = Z at HS HS2
        have HY := Lib.hid hY
        have HZ := Lib.hid hZ
        clear hY hZ
        go_wp2_with fail
        refine (putbyteX b g S _ _ _ HW.out.1 (by rw [HLY.out]; omega) hS).mono ?_
        rintro e w5 ⟨rfl, hw, hT⟩
        have HN := Lib.hid (And.intro hw (HW2.out.trans hT))
        clear hw hT
        go_wp2
        go_roundw
        case rel => exact ⟨k + 1, by omega, by go_num, by rw [HS.out], by rw [HS2.out, ← List.append_assoc]; exact HN.out.1, HN.out.2⟩
        case measure => simp [intOf]; omega
      · obtain rfl : k = 8 := by omega
        go_wp2
        go_end0
        exact ⟨rfl, by unfold recN; simpa [List.append_assoc] using HW.out.1, HW.out.2⟩
end Go.Proofs.Ytonipfhigkkhnaa
