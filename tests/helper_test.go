package tests

import (
	"fmt"
	"reflect"
	"slices"
	"strconv"
	"strings"
	"testing"

	"loop.example/springhead/impl"
)

// dice rolls numbers that are the same in each run.
type dice uint64

func newDice(seed uint64) *dice {
	d := dice(seed*0x9e3779b97f4a7c15 + 1)
	return &d
}

func (d *dice) roll(n int) int {
	*d ^= *d << 13
	*d ^= *d >> 7
	*d ^= *d << 17
	return int(uint64(*d) >> 11 % uint64(n))
}

func (d *dice) one(of ...string) string {
	return of[d.roll(len(of))]
}

func (d *dice) name() string {
	return d.one("a", "b", "c", "p", "q", "if", "and", "a1", "0", "abcdefgh")
}

func (d *dice) word() impl.Term {
	return impl.Term{Name: d.one("a", "b", "c", "1", "not1", "ab", "hgfedcba")}
}

func (d *dice) term() impl.Term {
	if d.roll(2) == 0 {
		return impl.Term{Var: true, Name: d.one("X", "Y", "Z", "Xa", "Abcdefg1")}
	}
	return d.word()
}

func (d *dice) atom() impl.Atom {
	a := impl.Atom{Name: d.name()}
	for range d.roll(impl.ArgMax + 1) {
		a.Args = append(a.Args, d.term())
	}
	return a
}

func (d *dice) rule() impl.Rule {
	r := impl.Rule{Head: d.atom()}
	for range d.roll(impl.BodyMax + 1) {
		r.Body = append(r.Body, impl.Part{Not: d.roll(2) == 0, Atom: d.atom()})
	}
	return r
}

// progRule is a rule of few names, each with as many terms as it always has.
func (d *dice) progRule() impl.Rule {
	atom := func() impl.Atom {
		n := d.roll(5)
		a := impl.Atom{Name: string(rune('p' + n))}
		for range n % 3 {
			x := d.one("X", "X", "X", "Y", "a")
			a.Args = append(a.Args, impl.Term{Var: x != "a", Name: x})
		}
		return a
	}
	r := impl.Rule{Head: atom()}
	for range 1 + d.roll(2) {
		r.Body = append(r.Body, impl.Part{Not: d.roll(3) == 0, Atom: atom()})
	}
	return r
}

func (d *dice) rules(most int) []impl.Rule {
	var out []impl.Rule
	for range d.roll(most + 1) {
		out = append(out, d.progRule())
	}
	return out
}

// fineRules leaves out what would spoil the rules.
func (d *dice) fineRules(most int) []impl.Rule {
	var out []impl.Rule
	for range 4 * most {
		r := d.progRule()
		if len(out) < most && impl.ProgCheck(append(slices.Clone(out), r)) == impl.ProgFine {
			out = append(out, r)
		}
	}
	return out
}

func (d *dice) fact() impl.Atom {
	a := impl.Atom{Name: d.one("a", "b", "p")}
	for range d.roll(3) {
		a.Args = append(a.Args, d.word())
	}
	return a
}

func (d *dice) facts(most int) []impl.Atom {
	set := map[string]bool{}
	for range d.roll(most + 1) {
		set[impl.AtomPut(d.fact())] = true
	}
	return listOf(set)
}

func (d *dice) change(most int) impl.Change {
	set := map[string]bool{}
	for _, a := range d.facts(most) {
		set[impl.AtomPut(a)] = true
	}
	goes := map[string]bool{}
	for s := range set {
		// By the text, as the order of a map must not show.
		if (len(s)+int(s[len(s)-2]))%2 == 0 {
			goes[s] = true
			delete(set, s)
		}
	}
	c := impl.Change{Comes: listOf(set), Goes: listOf(goes)}
	if d.roll(2) == 0 {
		c.Comes, c.Goes = c.Goes, c.Comes
	}
	return c
}

// listOf is the facts that a set of texts names, in the order that the document says.
func listOf(set map[string]bool) []impl.Atom {
	var out []impl.Atom
	for s := range set {
		out = append(out, readAtom(s))
	}
	slices.SortFunc(out, orderOfAtoms)
	return out
}

func setOf(list []impl.Atom) map[string]bool {
	out := map[string]bool{}
	for _, a := range list {
		out[impl.AtomPut(a)] = true
	}
	return out
}

// orderOfAtoms is what the document says of AtomCmp, said once more in another way.
func orderOfAtoms(a, b impl.Atom) int {
	key := func(x impl.Atom) []string {
		out := []string{x.Name}
		for _, t := range x.Args {
			out = append(out, t.Name)
		}
		return out
	}
	return slices.Compare(key(a), key(b))
}

// readAtom reads an atom's text without the program.
func readAtom(text string) impl.Atom {
	name, rest, _ := strings.Cut(text, "(")
	a := impl.Atom{Name: name}
	if rest = strings.TrimSuffix(rest, ")"); rest == "" {
		return a
	}
	for _, s := range strings.Split(rest, ",") {
		a.Args = append(a.Args, impl.Term{Var: s != "" && s[0] >= 'A' && s[0] <= 'Z', Name: s})
	}
	return a
}

func atoms(texts ...string) []impl.Atom {
	var out []impl.Atom
	for _, s := range texts {
		out = append(out, readAtom(s))
	}
	return out
}

// readRule reads a rule's text without the program.
func readRule(text string) impl.Rule {
	head, body, has := strings.Cut(text, " if ")
	r := impl.Rule{Head: readAtom(head)}
	if !has {
		return r
	}
	for _, s := range strings.Split(body, " and ") {
		rest, not := strings.CutPrefix(s, "not ")
		r.Body = append(r.Body, impl.Part{Not: not, Atom: readAtom(rest)})
	}
	return r
}

func rules(texts ...string) []impl.Rule {
	var out []impl.Rule
	for _, s := range texts {
		out = append(out, readRule(s))
	}
	return out
}

// numbered is so many facts, in order.
func numbered(name string, from int, count int) []impl.Atom {
	var out []impl.Atom
	for i := range count {
		n := from + i
		digits := string([]byte{byte('0' + n/100), byte('0' + n/10%10), byte('0' + n%10)})
		out = append(out, impl.Atom{Name: name, Args: []impl.Term{{Name: digits}}})
	}
	return out
}

// same says whether two values are the same, the empty list and the nil list being so too.
func same(a, b any) bool {
	return reflect.DeepEqual(plain(reflect.ValueOf(a)).Interface(), plain(reflect.ValueOf(b)).Interface())
}

// plain copies a value with nil for each empty list.
func plain(v reflect.Value) reflect.Value {
	return rebuild(v, func(list reflect.Value) reflect.Value {
		if list.Len() == 0 {
			return reflect.Zero(list.Type())
		}
		out := reflect.MakeSlice(list.Type(), list.Len(), list.Len())
		for i := range list.Len() {
			out.Index(i).Set(plain(list.Index(i)))
		}
		return out
	})
}

// rebuild copies a value, each of its outermost lists as a function does.
func rebuild(v reflect.Value, copyList func(reflect.Value) reflect.Value) reflect.Value {
	out := reflect.New(v.Type()).Elem()
	switch v.Kind() {
	case reflect.Slice:
		out.Set(copyList(v))
	case reflect.Struct:
		for i := range v.NumField() {
			out.Field(i).Set(rebuild(v.Field(i), copyList))
		}
	default:
		out.Set(v)
	}
	return out
}

// expect fails unless the program's answer is the same as what is wanted.
func expect(t *testing.T, what any, got, want any) {
	t.Helper()
	if !same(got, want) {
		t.Fatalf("%s: got %s, want %s", short(what), short(got), short(want))
	}
}

// short is a value as a text that a line can hold.
func short(x any) string {
	text := fmt.Sprintf("%+v", x)
	if len(text) > 400 {
		text = text[:400] + " .."
	}
	return strconv.QuoteToASCII(text)
}
