package impl

import (
	"errors"
	"iter"
	"maps"
	"slices"
)

// Codes of rules that are wrong.
const (
	ProgFine  = 0
	ProgRule  = 1
	ProgMany  = 2
	ProgArgs  = 3
	ProgLoose = 4
	ProgCycle = 5
)

// nameTable is the names of rules, ascending, and the place of each.
type nameTable struct {
	names  []string
	places map[string]int
}

// cycleError tells that there are no strata, and of which name that was seen.
type cycleError struct {
	name string
}

func (e cycleError) Error() string {
	return "no stratum for " + e.name
}

// atomsOf goes through all atoms of rules, each head ahead of its body.
func atomsOf(list []Rule) iter.Seq[Atom] {
	return func(yield func(Atom) bool) {
		for _, r := range list {
			if !yield(r.Head) {
				return
			}
			for _, p := range r.Body {
				if !yield(p.Atom) {
					return
				}
			}
		}
	}
}

func namesOf(list []Rule) nameTable {
	places := map[string]int{}
	for a := range atomsOf(list) {
		places[a.Name] = 0
	}
	names := slices.Sorted(maps.Keys(places))
	for i, name := range names {
		places[name] = i
	}
	return nameTable{names: names, places: places}
}

// argCounts is for each name of rules how many terms it has; false if these are unlike.
func argCounts(list []Rule) (map[string]int, bool) {
	counts := map[string]int{}
	for a := range atomsOf(list) {
		n, seen := counts[a.Name]
		if seen && n != len(a.Args) {
			return nil, false
		}
		counts[a.Name] = len(a.Args)
	}
	return counts, true
}

// boundVars is the variables of parts without Not.
func boundVars(body []Part) map[string]bool {
	bound := map[string]bool{}
	for _, p := range body {
		if p.Not {
			continue
		}
		for v := range variablesOf(p.Atom) {
			bound[v] = true
		}
	}
	return bound
}

// isLoose says whether a variable of a rule is in no part without Not.
func isLoose(r Rule) bool {
	bound := boundVars(r.Body)
	for a := range atomsOf([]Rule{r}) {
		for v := range variablesOf(a) {
			if !bound[v] {
				return true
			}
		}
	}
	return false
}

// headPlaces says of each name by its place whether it is the name of a head.
func headPlaces(list []Rule, table nameTable) []bool {
	heads := make([]bool, len(table.names))
	for _, r := range list {
		heads[table.places[r.Head.Name]] = true
	}
	return heads
}

// leastLevel is the least stratum that a rule's body allows.
func leastLevel(r Rule, table nameTable, heads []bool, levels []int) int {
	least := 0
	for _, p := range r.Body {
		place := table.places[p.Atom.Name]
		if !heads[place] {
			continue
		}
		level := levels[place]
		if p.Not {
			level++
		}
		least = max(least, level)
	}
	return least
}

// strataOf is the stratum of each of rules whose atoms are ok; a cycleError if there are none.
func strataOf(list []Rule) ([]int, error) {
	table := namesOf(list)
	heads := headPlaces(list, table)
	levels := make([]int, len(table.names))
	for changed := true; changed; {
		changed = false
		for _, r := range list {
			place := table.places[r.Head.Name]
			level := leastLevel(r, table, heads, levels)
			if level <= levels[place] {
				continue
			}
			// Each stratum has a rule, so with strata none gets so high.
			if level >= len(list) {
				return nil, cycleError{name: r.Head.Name}
			}
			levels[place] = level
			changed = true
		}
	}
	var out []int
	for _, r := range list {
		out = append(out, levels[table.places[r.Head.Name]])
	}
	return out, nil
}

// ProgCheck is what is wrong with rules first; 0 if nothing is.
func ProgCheck(list []Rule) int {
	for _, r := range list {
		if !ruleOk(r) {
			return ProgRule
		}
	}
	if len(list) > RuleMax {
		return ProgMany
	}
	if _, alike := argCounts(list); !alike {
		return ProgArgs
	}
	if slices.ContainsFunc(list, isLoose) {
		return ProgLoose
	}
	_, err := strataOf(list)
	var cycle cycleError
	if errors.As(err, &cycle) {
		return ProgCycle
	}
	return ProgFine
}

// ProgNames is all names of rules, each once, ascending.
func ProgNames(list []Rule) []string {
	if ProgCheck(list) != ProgFine {
		return nil
	}
	return namesOf(list).names
}

// ProgHeads says whether a name follows of rules, and is not given.
func ProgHeads(list []Rule, name string) bool {
	if ProgCheck(list) != ProgFine {
		return false
	}
	return slices.ContainsFunc(list, func(r Rule) bool { return r.Head.Name == name })
}

// ProgStrata is the stratum of each rule: no rule needs that something is not which follows in its own, or a later one.
func ProgStrata(list []Rule) []int {
	if ProgCheck(list) != ProgFine {
		return nil
	}
	strata, _ := strataOf(list)
	return strata
}

// ProgNeeds is all names that a name needs, with itself, ascending.
func ProgNeeds(list []Rule, name string) []string {
	if ProgCheck(list) != ProgFine {
		return nil
	}
	table := namesOf(list)
	first, known := table.places[name]
	if !known {
		return nil
	}
	needed := make([]bool, len(table.names))
	needed[first] = true
	for grows := true; grows; {
		grows = false
		for _, r := range list {
			if needed[table.places[r.Head.Name]] && needBody(r, table, needed) {
				grows = true
			}
		}
	}
	var out []string
	for i, n := range table.names {
		if needed[i] {
			out = append(out, n)
		}
	}
	return out
}

// needBody notes that the names of a rule's body are needed; true if one was not noted yet.
func needBody(r Rule, table nameTable, needed []bool) bool {
	grows := false
	for _, p := range r.Body {
		place := table.places[p.Atom.Name]
		if !needed[place] {
			needed[place] = true
			grows = true
		}
	}
	return grows
}
