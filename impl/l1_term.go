// Package impl: facts, rules, and what follows.
package impl

import (
	"iter"
	"slices"
	"strings"
)

// Limits of terms.
const (
	NameMax = 8
	ArgMax  = 3
	BodyMax = 4
	RuleMax = 8
	TextMax = 1500
)

// What stands between the pieces of a rule's text.
const (
	notWord = "not"
	notMark = notWord + " "
	ifMark  = " if "
	andMark = " and "
)

// Term is a variable, or a word.
type Term struct {
	Var  bool
	Name string
}

// Atom is a name, and terms.
type Atom struct {
	Name string
	Args []Term
}

// Part is an atom of a rule's body, perhaps one that must not be.
type Part struct {
	Not  bool
	Atom Atom
}

// Rule says that its head follows of its body.
type Rule struct {
	Head Atom
	Body []Part
}

// term is what a Term stands for: a word or a variable.
type term interface {
	ok() bool
}

type word string

type variable string

func (w word) ok() bool {
	return NameOk(string(w))
}

func (v variable) ok() bool {
	return len(v) >= 1 && len(v) <= NameMax && isCapital(v[0]) && allSmall(string(v[1:]))
}

func termOf(t Term) term {
	if t.Var {
		return variable(t.Name)
	}
	return word(t.Name)
}

func isCapital(b byte) bool {
	return b >= 'A' && b <= 'Z'
}

// allSmall says whether all bytes are small letters or figures.
func allSmall(text string) bool {
	for i := range len(text) {
		b := text[i]
		if (b < 'a' || b > 'z') && (b < '0' || b > '9') {
			return false
		}
	}
	return true
}

// NameOk says whether a text is a name.
func NameOk(text string) bool {
	return len(text) >= 1 && len(text) <= NameMax && text != notWord && allSmall(text)
}

// AtomOk says whether an atom is ok.
func AtomOk(a Atom) bool {
	if !NameOk(a.Name) || len(a.Args) > ArgMax {
		return false
	}
	for _, t := range a.Args {
		if !termOf(t).ok() {
			return false
		}
	}
	return true
}

// variablesOf goes through the variables of an atom, as often as they stand there.
func variablesOf(a Atom) iter.Seq[string] {
	return func(yield func(string) bool) {
		for _, t := range a.Args {
			switch x := termOf(t).(type) {
			case variable:
				if !yield(string(x)) {
					return
				}
			case word:
			}
		}
	}
}

// AtomPut is an atom as a text.
func AtomPut(a Atom) string {
	if !AtomOk(a) {
		return ""
	}
	return atomText(a)
}

// atomText is AtomPut of an atom, be it ok or not.
func atomText(a Atom) string {
	names := make([]string, len(a.Args))
	for i, t := range a.Args {
		names[i] = t.Name
	}
	return a.Name + "(" + strings.Join(names, ",") + ")"
}

// AtomGet reads an atom.
func AtomGet(text string) (Atom, bool) {
	if len(text) > TextMax {
		return Atom{}, false
	}
	name, rest, opened := strings.Cut(text, "(")
	terms, closed := strings.CutSuffix(rest, ")")
	a := Atom{Name: name, Args: termsGet(terms)}
	if !opened || !closed || !AtomOk(a) {
		return Atom{}, false
	}
	return a, true
}

// termsGet reads terms, be they ok or not.
func termsGet(text string) []Term {
	if text == "" {
		return nil
	}
	var out []Term
	for _, name := range strings.Split(text, ",") {
		out = append(out, Term{Var: name != "" && isCapital(name[0]), Name: name})
	}
	return out
}

// bodyOk says whether there are not too many parts, with atoms that are ok.
func bodyOk(body []Part) bool {
	if len(body) > BodyMax {
		return false
	}
	for _, p := range body {
		if !AtomOk(p.Atom) {
			return false
		}
	}
	return true
}

func ruleOk(r Rule) bool {
	return AtomOk(r.Head) && bodyOk(r.Body)
}

// bodyPut is parts that are ok as a text.
func bodyPut(body []Part) string {
	texts := make([]string, len(body))
	for i, p := range body {
		texts[i] = AtomPut(p.Atom)
		if p.Not {
			texts[i] = notMark + texts[i]
		}
	}
	return strings.Join(texts, andMark)
}

// bodyGet reads parts, of which there is at least one.
func bodyGet(text string) ([]Part, bool) {
	// One piece more than may be is enough to see that there are too many.
	texts := strings.SplitN(text, andMark, BodyMax+1)
	if len(texts) > BodyMax {
		return nil, false
	}
	var out []Part
	for _, s := range texts {
		rest, not := strings.CutPrefix(s, notMark)
		a, ok := AtomGet(rest)
		if !ok {
			return nil, false
		}
		out = append(out, Part{Not: not, Atom: a})
	}
	return out, true
}

// RulePut is a rule as a text.
func RulePut(r Rule) string {
	if !ruleOk(r) {
		return ""
	}
	if len(r.Body) == 0 {
		return AtomPut(r.Head)
	}
	return AtomPut(r.Head) + ifMark + bodyPut(r.Body)
}

// RuleGet reads a rule.
func RuleGet(text string) (Rule, bool) {
	headText, bodyText, hasBody := strings.Cut(text, ifMark)
	head, ok := AtomGet(headText)
	if !ok {
		return Rule{}, false
	}
	if !hasBody {
		return Rule{Head: head}, true
	}
	body, ok := bodyGet(bodyText)
	if !ok {
		return Rule{}, false
	}
	return Rule{Head: head, Body: body}, true
}

// AtomCmp is below 0, 0 or above 0, as an atom stands ahead of another one, is the same, or stands behind.
func AtomCmp(a Atom, b Atom) int {
	if !AtomOk(a) || !AtomOk(b) {
		return 0
	}
	return compareAtoms(a, b)
}

// compareAtoms is AtomCmp of atoms, be they ok or not.
func compareAtoms(a Atom, b Atom) int {
	if c := strings.Compare(a.Name, b.Name); c != 0 {
		return c
	}
	return slices.CompareFunc(a.Args, b.Args, compareTerms)
}

// compareTerms needs no look at Var: names of words and variables that are ok begin with unlike letters.
func compareTerms(a Term, b Term) int {
	return strings.Compare(a.Name, b.Name)
}

// copyAtom is an atom in memory of its own.
func copyAtom(a Atom) Atom {
	return Atom{Name: a.Name, Args: append([]Term(nil), a.Args...)}
}

// copyAtoms is atoms in memory of their own.
func copyAtoms(list []Atom) []Atom {
	var out []Atom
	for _, a := range list {
		out = append(out, copyAtom(a))
	}
	return out
}

// copyParts is parts in memory of their own.
func copyParts(body []Part) []Part {
	var out []Part
	for _, p := range body {
		out = append(out, Part{Not: p.Not, Atom: copyAtom(p.Atom)})
	}
	return out
}

// copyRules is rules in memory of their own.
func copyRules(list []Rule) []Rule {
	var out []Rule
	for _, r := range list {
		out = append(out, Rule{Head: copyAtom(r.Head), Body: copyParts(r.Body)})
	}
	return out
}
