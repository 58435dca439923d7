/- My own work: a node's archive, and the walk of appendNode. -/
import Derived.Test.YtimiginpdkokiaaDoorStrs
import Derived.Test.YtimiginpdkokiaaDoorCensus
import Derived.Great.BuildSlice
import Derived.Lib.LazyBuf
namespace Go.Proofs.YtimiginpdkokiaaDoor
open Go.RowKit

abbrev wOpen : ByteArray := ⟨#[40]⟩
abbrev wShut : ByteArray := ⟨#[41]⟩
abbrev wType : ByteArray := ⟨#[116, 121, 112, 101]⟩
abbrev wFile : ByteArray := ⟨#[114, 101, 103, 117, 108, 97, 114]⟩
abbrev wExec : ByteArray := ⟨#[101, 120, 101, 99, 117, 116, 97, 98, 108, 101]⟩
abbrev wNone : ByteArray := ⟨#[]⟩
abbrev wData : ByteArray := ⟨#[99, 111, 110, 116, 101, 110, 116, 115]⟩
abbrev wLink : ByteArray := ⟨#[115, 121, 109, 108, 105, 110, 107]⟩
abbrev wTarget : ByteArray := ⟨#[116, 97, 114, 103, 101, 116]⟩
abbrev wDir : ByteArray := ⟨#[100, 105, 114, 101, 99, 116, 111, 114, 121]⟩
abbrev wEntry : ByteArray := ⟨#[101, 110, 116, 114, 121]⟩
abbrev wName : ByteArray := ⟨#[110, 97, 109, 101]⟩
abbrev wNode : ByteArray := ⟨#[110, 111, 100, 101]⟩
abbrev wFirst : ByteArray := ⟨#[115, 116, 105, 108, 108, 45, 97, 114, 99, 104, 105, 118, 101, 45, 49]⟩
mutual
/-- A node in an archive. -/
def encN : Nd → List UInt8
  | .mk k e d ns ks => strsU [wOpen, wType] ++ ((if k = 1 then strsU [wFile] ++ ((if e then strsU [wExec, wNone] else []) ++ strsU [wData, d]) else if k = 3 then strsU [wLink, wTarget, d] else if k = 2 then strsU [wDir] ++ encL ks ns else []) ++ strsU [wShut])
/-- The entries of a directory. -/
def encL : List Nd → List ByteArray → List UInt8
  | [], _ => []
  | k :: ks, ns => strsU [wEntry, wOpen, wName, ns.headD ⟨#[]⟩, wNode] ++ (encN k ++ (strsU [wShut] ++ encL ks ns.tail))
end
/-- An archive. -/
def encA (n : Nd) : List UInt8 := strsU [wFirst] ++ encN n
theorem encL_next (ks : List Nd) (ns : List ByteArray) (i : Nat) (hi : i < ks.length) (hn : i < ns.length) : encL (ks.drop i) (ns.drop i) = strsU [wEntry, wOpen, wName, ns[i], wNode] ++ (encN ks[i] ++ (strsU [wShut] ++ encL (ks.drop (i + 1)) (ns.drop (i + 1)))) := by
  rw [List.drop_eq_getElem_cons hi, List.drop_eq_getElem_cons hn]
  conv => lhs; unfold encL
  rfl
theorem encL_nil (ns : List ByteArray) : encL [] ns = [] := by unfold encL; rfl
theorem each_alone {n : Nd} (h : eachE n = 0) : aloneE n = 0 := by
  cases n
  unfold eachE at h
  split at h
  · exact absurd h (by assumption)
  · rename_i h1
    exact Classical.not_not.1 h1
theorem eachL_zero : ∀ (ks : List Nd), eachL ks = 0 → ∀ i (h : i < ks.length), eachE ks[i] = 0
  | k :: ks, h, 0, _ => by
    unfold eachL at h
    split at h
    · exact h
    · rename_i h1
      exact Classical.not_not.1 h1
  | k :: ks, h, i + 1, hi => by
    have h2 : eachL ks = 0 := by
      unfold eachL at h
      split at h
      · rename_i h1
        exact absurd h h1
      · exact h
    exact eachL_zero ks h2 i (by simpa using hi)
theorem each_kid {k : Int} {e : Bool} {d : ByteArray} {ns : List ByteArray} {ks : List Nd} (h : eachE (.mk k e d ns ks) = 0) (i : Nat) (hi : i < ks.length) : eachE ks[i] = 0 := by
  unfold eachE at h
  split at h
  · rename_i h1
    exact absurd h h1
  · exact eachL_zero ks h i hi
theorem alone_kind {n : Nd} (h : aloneE n = 0) : kindB n = true := by
  unfold aloneE at h
  by_cases hk : kindB n = false
  · rw [if_pos hk] at h; omega
  · simpa using hk
theorem alone_names {n : Nd} (h : aloneE n = 0) : namesB n.names = true := by
  unfold aloneE at h
  by_cases h1 : kindB n = false
  · rw [if_pos h1] at h; omega
  · rw [if_neg h1] at h
    by_cases h2 : bigB n = true
    · rw [if_pos h2] at h; omega
    · rw [if_neg h2] at h
      by_cases h3 : n.kind = 3 ∧ n.data.size = 0
      · rw [if_pos h3] at h; omega
      · rw [if_neg h3] at h
        by_cases h4 : namesB n.names = false
        · rw [if_pos h4] at h; omega
        · simpa using h4
theorem alone_size {n : Nd} (h : aloneE n = 0) : n.data.size ≤ 31744 := by
  unfold aloneE at h
  by_cases h1 : kindB n = false
  · rw [if_pos h1] at h; omega
  · rw [if_neg h1] at h
    by_cases h2 : bigB n = true
    · rw [if_pos h2] at h; omega
    · unfold bigB at h2
      simp only [decide_eq_true_eq] at h2
      split at h2 <;> omega
theorem names_size {ns : List ByteArray} (h : namesB ns = true) (i : Nat) (hi : i < ns.length) : 1 ≤ ns[i].size ∧ ns[i].size ≤ 60 := by
  unfold namesB at h
  rw [List.all_eq_true] at h
  have := h i (List.mem_range.2 hi)
  unfold nmOk nameB at this
  rw [getD_at ns i hi] at this
  simp only [Bool.and_eq_true, decide_eq_true_eq] at this
  exact ⟨this.1.1.1.1.1, this.1.1.1.1.2⟩
theorem kind_cases {k : Int} {e : Bool} {d : ByteArray} {ns : List ByteArray} {ks : List Nd} (h : kindB (.mk k e d ns ks) = true) : (k = 1 ∧ ns = [] ∧ ks = []) ∨ (k = 3 ∧ e = false ∧ ns = [] ∧ ks = []) ∨ (k = 2 ∧ e = false ∧ ns.length = ks.length ∧ d.size = 0) := by
  replace h : (if k = 1 then decide (ns.length = 0) && decide (ks.length = 0) else if k = 3 then decide (ns.length = 0) && decide (ks.length = 0) && !e else if k = 2 then decide (ns.length = ks.length) && !e && decide (d.size = 0) else false) = true := h
  by_cases h1 : k = 1
  · rw [if_pos h1] at h
    simp only [Bool.and_eq_true, decide_eq_true_eq] at h
    exact .inl ⟨h1, List.eq_nil_of_length_eq_zero h.1, List.eq_nil_of_length_eq_zero h.2⟩
  · rw [if_neg h1] at h
    by_cases h3 : k = 3
    · rw [if_pos h3] at h
      simp only [Bool.and_eq_true, decide_eq_true_eq, Bool.not_eq_true'] at h
      exact .inr (.inl ⟨h3, h.2, List.eq_nil_of_length_eq_zero h.1.1, List.eq_nil_of_length_eq_zero h.1.2⟩)
    · rw [if_neg h3] at h
      by_cases h2 : k = 2
      · rw [if_pos h2] at h
        simp only [Bool.and_eq_true, decide_eq_true_eq, Bool.not_eq_true'] at h
        exact .inr (.inr ⟨h2, h.1.2, h.1.1, h.2⟩)
      · rw [if_neg h2] at h
        cases h

theorem conv_bytes (w : World) (a : Option Addr) (d : ByteArray) (c : Nat) (h : BytesAt w a d c) : (convert 22 9 (.slice a d.size c)).run Tryd.prog w = .ok (.string d) w := by
  obtain ⟨b, off, h1, h2⟩ := h.ex
  have hd : strOfNums (d.data.toList.map fun x => (x.toNat : Int)) = d := Lib.Lz.strOfNums_map d.data.toList
  cases a with
  | none =>
    have h0 : d.size = 0 := (h.nil rfl).1
    have hd0 : d = ByteArray.empty := by
      apply ByteArray.ext
      exact Array.eq_empty_of_size_eq_zero h0
    have := run_convert_bytes_nil (P := Tryd.prog) w 22 5 Tryd.underlying22 Tryd.underlying5 d.size c 9 Tryd.underlying9
    rw [hd0] at this ⊢
    exact this
  | some ad =>
    by_cases h0 : d.size = 0
    · have hd0 : d = ByteArray.empty := by
        apply ByteArray.ext
        exact Array.eq_empty_of_size_eq_zero h0
      obtain ⟨b', o', sp⟩ := ad
      subst hd0
      rw [run_convert_bytes_string (P := Tryd.prog) w 22 9 5 _ _ c Tryd.underlying22 Tryd.underlying5 Tryd.underlying9]
      rfl
    · obtain rfl : ad = ⟨b, off, none⟩ := Option.some.inj (h1 (by omega))
      have := run_convert_bytes_arg (P := Tryd.prog) w 22 5 Tryd.underlying22 Tryd.underlying5 b off d.size c (d.data.toList.map fun x => (x.toNat : Int)) (by rw [List.length_map, Array.length_toList]; rfl) (fun i hi => by
        rw [h2 i hi]
        have hi' : i < d.data.size := hi
        rw [List.getD, List.getElem?_map, Array.getElem?_toList, Array.getElem?_eq_getElem hi']
        simp only [bf, Array.getElem?_eq_getElem hi', Option.getD_some, Option.map_some]) 9 Tryd.underlying9
      rw [hd] at this
      exact this
theorem conv_buf (w : World) (B : Nat) (v : Value) (X : List UInt8) (h : Buf w B v X) : (convert 22 9 v).run Tryd.prog w = .ok (.string ⟨X.toArray⟩) w := by
  have hd : strOfNums (X.map fun x => (x.toNat : Int)) = ⟨X.toArray⟩ := Lib.Lz.strOfNums_map X
  obtain ⟨_, ⟨rfl, h0⟩ | ⟨g, cap, cur, rfl, _⟩⟩ := id h
  · have hX : X = [] := List.eq_nil_of_length_eq_zero h0
    subst hX
    exact run_convert_bytes_nil (P := Tryd.prog) w 22 5 Tryd.underlying22 Tryd.underlying5 0 0 9 Tryd.underlying9
  · have := run_convert_bytes_arg (P := Tryd.prog) w 22 5 Tryd.underlying22 Tryd.underlying5 g 0 X.length cap (X.map fun x => (x.toNat : Int)) (by simp) (fun i hi => by
      rw [Nat.zero_add, h.cellAt i (by omega)]
      simp [u8s, List.getD, hi]) 9 Tryd.underlying9
    rw [hd] at this
    exact this
section
variable {w : World} {ops : Array Oper} {rest : List Oper} {o : Oper} {a : Act} {Q : Exit → Act → World → Prop}
theorem infoS : (Tryd.prog.info? 9).map (fun i => (i.zero, i.size, i.bytes)) = some (some (.string ⟨#[]⟩), 1, 16) := by kernel_rfl
/-- Texts, written as a list. -/
theorem b_texts (hgd : o.guard = none) (parts : Array (Nat × Operand)) (l : List ByteArray) (ho : o.op = .buildSlice 23 l.length parts) (hpos : 0 < l.length) (h10 : l.length ≤ 10)
    (hp : (parts.map fun (i, x) => (i, a.eval x)).toList = ((l.map Value.string).zipIdx 0).map fun x => (x.2, x.1))
    (h : wpList Tryd.prog ops Q rest (a.put o.dst (.slice (some ⟨w.heap.size, 0, none⟩) l.length l.length)) (w.alloc (.cells (l.map Value.string).toArray 9))) : wpList Tryd.prog ops Q (o :: rest) a w := by
  obtain ⟨i0, hi, hz0, hz1, hz2⟩ := info_parts infoS
  refine wpList_buildSlice hgd 23 9 l.length parts ho _ i0 _ Tryd.underlying23 hi hz0 (by rw [hz1]; omega) (by rw [hz1]; omega) ?_ h
  rw [hp, hz1]
  exact Great.fill_flat _ _ (fun v hv => by obtain ⟨n, _, rfl⟩ := List.mem_map.1 hv; rfl) (by simp)
end
/-- appendStrings of texts that were just written as a list. -/
theorem texts_ok (B : Nat) (v : Value) (X : List UInt8) (w : World) (hX : Buf w B v X) (hB : B ≤ w.heap.size) (l : List ByteArray) (h10 : l.length ≤ 10) (hl : X.length + (strsU l).length ≤ 140737488355328) (g : Nat) (hg : g = w.heap.size) (m : Nat) (hm : m = l.length) (cs : Array Value) (hcs : cs = (l.map Value.string).toArray) :
    Calls Tryd.prog 19 #[v, .slice (some ⟨g, 0, none⟩) m m] (w.alloc (.cells cs 9)) fun e w' => ∃ v', e = .returned v' ∧ More B w v w' v' (X ++ strsU l) := by
  subst hg hm hcs
  have hb : Below w.heap.size w (w.alloc (.cells (l.map Value.string).toArray 9)) := (Below.refl _ _).alloc (Nat.le_refl _) _
  refine (appendStrings_ok B v X _ (hX.keep hb) (by have := hb.size; omega) l w.heap.size l.length (Nat.le_refl _) (by omega) (Row.new w _ 9) hl).mono ?_
  rintro e w' ⟨v', rfl, hm⟩
  exact ⟨v', rfl, More.after hb hm⟩
end Go.Proofs.YtimiginpdkokiaaDoor
