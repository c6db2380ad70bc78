package impl

import (
	"iter"
	"slices"
)

// Limits of facts.
const (
	GivenMax = 40
	AllMax   = 300
)

// Change is facts that come, and facts that go.
type Change struct {
	Comes []Atom
	Goes  []Atom
}

// sortedList is items that stand in order, each once.
type sortedList[T any] struct {
	items   []T
	compare func(a T, b T) int
}

// side says in which of two lists an item stands.
type side int

const (
	inFirst side = iota
	inSecond
	inBoth
)

// merged goes through the items of two lists in one order, and tells of each where it stands.
func (s sortedList[T]) merged(other sortedList[T]) iter.Seq2[T, side] {
	return func(yield func(T, side) bool) {
		a, b := s.items, other.items
		for len(a) > 0 || len(b) > 0 {
			switch where := s.nextSide(a, b); where {
			case inFirst:
				if !yield(a[0], where) {
					return
				}
				a = a[1:]
			case inSecond:
				if !yield(b[0], where) {
					return
				}
				b = b[1:]
			default:
				if !yield(a[0], where) {
					return
				}
				a, b = a[1:], b[1:]
			}
		}
	}
}

// nextSide says where the next item of two lists stands, of which one may be empty.
func (s sortedList[T]) nextSide(a []T, b []T) side {
	if len(b) == 0 {
		return inFirst
	}
	if len(a) == 0 {
		return inSecond
	}
	switch c := s.compare(a[0], b[0]); {
	case c < 0:
		return inFirst
	case c > 0:
		return inSecond
	}
	return inBoth
}

// only is the items that stand on one side.
func (s sortedList[T]) only(other sortedList[T], wanted side) sortedList[T] {
	var out []T
	for x, where := range s.merged(other) {
		if where == wanted {
			out = append(out, x)
		}
	}
	return sortedList[T]{items: out, compare: s.compare}
}

func (s sortedList[T]) without(other sortedList[T]) sortedList[T] {
	return s.only(other, inFirst)
}

func (s sortedList[T]) with(other sortedList[T]) sortedList[T] {
	var out []T
	for x := range s.merged(other) {
		out = append(out, x)
	}
	return sortedList[T]{items: out, compare: s.compare}
}

func (s sortedList[T]) has(x T) bool {
	_, found := slices.BinarySearchFunc(s.items, x, s.compare)
	return found
}

// isSorted says whether each item stands behind the one ahead of it.
func (s sortedList[T]) isSorted() bool {
	for i := 1; i < len(s.items); i++ {
		if s.compare(s.items[i-1], s.items[i]) >= 0 {
			return false
		}
	}
	return true
}

// factList is atoms that are ok, by AtomCmp.
func factList(list ...Atom) sortedList[Atom] {
	return sortedList[Atom]{items: list, compare: compareAtoms}
}

func factOk(a Atom) bool {
	if !AtomOk(a) {
		return false
	}
	for range variablesOf(a) {
		return false
	}
	return true
}

// FactsOk says whether facts are ok: atoms without variables, in order, each once.
func FactsOk(list []Atom) bool {
	if len(list) > AllMax {
		return false
	}
	for _, a := range list {
		if !factOk(a) {
			return false
		}
	}
	return factList(list...).isSorted()
}

// FactsFit says whether facts have as many terms as rules say.
func FactsFit(rules []Rule, list []Atom) bool {
	if ProgCheck(rules) != ProgFine || !FactsOk(list) {
		return false
	}
	counts, _ := argCounts(rules)
	return fit(counts, list)
}

// fit says whether atoms have as many terms as their names; one that no rule has may have any number.
func fit(counts map[string]int, list []Atom) bool {
	for _, a := range list {
		if n, named := counts[a.Name]; named && n != len(a.Args) {
			return false
		}
	}
	return true
}

// FactsAdd is facts with one.
func FactsAdd(list []Atom, a Atom) ([]Atom, bool) {
	if !FactsOk(list) {
		return nil, false
	}
	if !factOk(a) || factList(list...).has(a) || len(list) == AllMax {
		return copyAtoms(list), false
	}
	return copyAtoms(factList(list...).with(factList(a)).items), true
}

// FactsGone is facts without one.
func FactsGone(list []Atom, a Atom) ([]Atom, bool) {
	if !FactsOk(list) {
		return nil, false
	}
	if !FactsHas(list, a) {
		return copyAtoms(list), false
	}
	return copyAtoms(factList(list...).without(factList(a)).items), true
}

// FactsHas says whether a fact is one of others.
func FactsHas(list []Atom, a Atom) bool {
	return FactsOk(list) && factOk(a) && factList(list...).has(a)
}

// ChangeOk says whether a change is ok.
func ChangeOk(c Change) bool {
	if !FactsOk(c.Comes) || !FactsOk(c.Goes) {
		return false
	}
	return len(factList(c.Comes...).only(factList(c.Goes...), inBoth).items) == 0
}

// ChangeOf is the change from facts to others.
func ChangeOf(a []Atom, b []Atom) Change {
	if !FactsOk(a) || !FactsOk(b) {
		return Change{}
	}
	from, to := factList(a...), factList(b...)
	return Change{
		Comes: copyAtoms(to.without(from).items),
		Goes:  copyAtoms(from.without(to).items),
	}
}

// ChangeDo is facts behind a change.
func ChangeDo(list []Atom, c Change) []Atom {
	out, _ := changeDone(list, c)
	return out
}

// changeDone is facts behind a change; false if facts or change are not ok, or it is too much. That
// tells no facts from nothing, which ChangeDo does not.
func changeDone(list []Atom, c Change) ([]Atom, bool) {
	if !FactsOk(list) || !ChangeOk(c) {
		return nil, false
	}
	out := factList(list...).without(factList(c.Goes...)).with(factList(c.Comes...)).items
	if !FactsOk(out) {
		return nil, false
	}
	return copyAtoms(out), true
}

// ChangeBoth is two changes, one behind the other.
func ChangeBoth(a Change, b Change) (Change, bool) {
	if !ChangeOk(a) || !ChangeOk(b) {
		return Change{}, false
	}
	both := Change{
		Comes: laterWins(a.Comes, b.Comes, b.Goes),
		Goes:  laterWins(a.Goes, b.Goes, b.Comes),
	}
	if !ChangeOk(both) {
		return Change{}, false
	}
	return both, true
}

// laterWins is what either change says, but for what the later one says the opposite of.
func laterWins(earlier []Atom, later []Atom, opposite []Atom) []Atom {
	kept := factList(earlier...).without(factList(opposite...))
	return copyAtoms(kept.with(factList(later...)).items)
}

// copyChange is a change in memory of its own.
func copyChange(c Change) Change {
	return Change{Comes: copyAtoms(c.Comes), Goes: copyAtoms(c.Goes)}
}
