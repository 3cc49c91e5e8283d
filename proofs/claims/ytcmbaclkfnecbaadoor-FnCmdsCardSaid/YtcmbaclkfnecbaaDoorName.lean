
/- The names of objects: what the program and its model write. Only new blocks are made. -/
import Derived.Test.YtcmbaclkfnecbaaDoorClaim
import Derived.Test.YtcmbaclkfnecbaaDoorMark
namespace Go.Proofs.YtcmbaclkfnecbaaDoor
open Go.ChangeShapes Go.WideShapes Go.ChangeAt Go.RowKit
set_option linter.unusedVariables false
set_option maxRecDepth 100000

def slash : ByteArray := ⟨#[47]⟩
/-- A word, and the first k numbers, each behind a slash. -/
def nmTo (word : ByteArray) (ns : List Int) : Nat → ByteArray
  | 0 => word
  | k + 1 => nmTo word ns k ++ ⟨#[47]⟩ ++ decB (ns.getD k 0)
def allIn (ns : List Int) : Bool := ns.all fun n => inB n 0 1000000
def nameTx (word : ByteArray) (ns : List Int) : ByteArray := if allIn ns then nmTo word ns ns.length else ByteArray.empty
theorem allIn_yes {ns : List Int} (h : ∀ j (hj : j < ns.length), inB ns[j] 0 1000000 = true) : allIn ns = true := by
  unfold allIn
  rw [List.all_eq_true]
  intro n hn
  obtain ⟨j, hj, rfl⟩ := List.getElem_of_mem hn
  exact h j hj
theorem allIn_no {ns : List Int} {j : Nat} (hj : j < ns.length) (h : inB ns[j] 0 1000000 = false) : allIn ns = false := by
  unfold allIn
  rw [List.all_eq_false]
  exact ⟨ns[j], List.getElem_mem hj, by rw [h]; simp⟩
theorem name_no {word : ByteArray} {ns : List Int} (h : allIn ns = false) : nameTx word ns = ByteArray.empty := by unfold nameTx; rw [if_neg (by rw [h]; simp)]
theorem nmTo_list (word : ByteArray) (ns : List Int) : ∀ k, k ≤ ns.length → (nmTo word ns k).data.toList = word.data.toList ++ Lib.joinTail [47] ((ns.take k).map Lib.itoa)
  | 0, _ => by simp [nmTo, Lib.joinTail]
  | k + 1, h => by
    have hk : k < ns.length := h
    have ih := nmTo_list word ns k (by omega)
    have h3 : ((ns.take (k + 1)).map Lib.itoa) = (ns.take k).map Lib.itoa ++ [Lib.itoa ns[k]] := by
      rw [List.take_succ_eq_append_getElem hk, List.map_append]; rfl
    have h2 : Lib.joinTail [47] ((ns.take (k + 1)).map Lib.itoa) = Lib.joinTail [47] ((ns.take k).map Lib.itoa) ++ ([47] ++ Lib.itoa ns[k]) := by
      rw [h3]; simp [Lib.joinTail]
    rw [h2, nmTo, ByteArray.data_append, Array.toList_append, ByteArray.data_append, Array.toList_append, ih, decB_list, List.getD_eq_getElem?_getD, List.getElem?_eq_getElem hk]
    simp
theorem nm_join {word : ByteArray} {ns : List Int} (h : 0 < ns.length) : word ++ ⟨#[47]⟩ ++ joinB ⟨#[47]⟩ ns = nmTo word ns ns.length := by
  apply ba_eq
  rw [nmTo_list word ns ns.length (Nat.le_refl _), List.take_length]
  cases ns with
  | nil => simp at h
  | cons n r => simp [joinB, Lib.join_cons, Lib.joinTail]
theorem in_of {n : Int} (h : inB n 0 1000000 = true) : In64 n := by rw [inB_iff] at h; unfold In64; omega
theorem joinB_size {ns : List Int} (hl : ns.length ≤ 4) (h : ∀ n ∈ ns, In64 n) : (joinB ⟨#[47]⟩ ns).size ≤ 140737488355328 := by
  have := join_few (sep := ⟨#[47]⟩) hl hl (by decide) h
  simpa [joinB, ByteArray.size] using this
theorem nmTo_size {word : ByteArray} {ns : List Int} (hw : word.size ≤ 5) (h : ∀ j (hj : j < ns.length), inB ns[j] 0 1000000 = true) : ∀ k, k ≤ ns.length → (nmTo word ns k).size ≤ 5 + 21 * k
  | 0, _ => by simpa [nmTo] using hw
  | k + 1, hk => by
    have ih := nmTo_size hw h k (by omega)
    have hi := in_of (h k hk)
    unfold In64 at hi
    have hz := @decB_size ns[k] hi.1 (by omega)
    have e : ns.getD k 0 = ns[k] := by rw [List.getD_eq_getElem?_getD, List.getElem?_eq_getElem (by omega)]; rfl
    rw [nmTo, e, ByteArray.size_append, ByteArray.size_append]
    show _ + 1 + _ ≤ _
    omega

structure Nums0 (w : World) (g : Nat) (ns : List Int) : Prop where
  lt : g < w.heap.size
  cell : ∀ j (h : j < ns.length), w.cell? ⟨g, j, none⟩ = some (.int .i64 ns[j])
theorem Nums0.keep {w w1 : World} {g : Nat} {ns : List Int} (h : Nums0 w g ns) (hB : Below w.heap.size w w1) : Nums0 w1 g ns :=
  ⟨Nat.lt_of_lt_of_le h.lt hB.size, fun j hj => (hB.cell (p := ⟨g, j, none⟩) h.lt).trans (h.cell j hj)⟩
theorem nums0_new (w : World) (t : TypeId) (ns : List Int) : Nums0 (w.alloc (.cells (ns.map fun n => Value.int .i64 n).toArray t)) w.heap.size ns :=
  ⟨by simp, fun j hj => by
    have := heap_alloc_new w (.cells (ns.map fun n => Value.int .i64 n).toArray t)
    unfold World.cell?
    rw [this]
    simp [hj]⟩

def nameB (kind t e k p : Int) : ByteArray :=
  if kind = 1 then nameTx ⟨#[105, 110]⟩ [t]
  else if kind = 2 then nameTx ⟨#[99, 108, 97, 105, 109]⟩ [t]
  else if kind = 3 then nameTx ⟨#[109, 97, 114, 107]⟩ [t]
  else if kind = 4 then nameTx ⟨#[111, 117, 116]⟩ [t, e, k, p]
  else if kind = 5 then nameTx ⟨#[114, 101, 115]⟩ [t, e, k]
  else if kind = 6 then ⟨#[106, 111, 98]⟩ else ByteArray.empty

end Go.Proofs.YtcmbaclkfnecbaaDoor
