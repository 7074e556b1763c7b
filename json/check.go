package json

import (
	"slices"

	"rostrum/api"
	"rostrum/dec"
	"rostrum/utf"
)

// deepest is how deep parts may be nested for anything to be promised.
const deepest = 1 << 16

// survey counts values. It does not go on beyond its bounds, as a value whose lists contain themselves has no end.
type survey struct {
	nest  int // the depth that is allowed
	count int
	deep  bool // there is something deeper than that
}

// visit counts the values of a list, which are at a depth, and everything in them; false: it went no further.
func (s *survey) visit(list []api.Json, depth int) bool {
	if len(list) == 0 {
		return true
	}
	if depth > s.nest {
		s.deep = true
		return false
	}
	if len(list) > api.MaxCount-s.count {
		s.count = api.MaxCount
		return false
	}
	s.count += len(list)
	for i := range list {
		if !s.visit(list[i].List, depth+1) {
			return false
		}
	}
	return true
}

// bounded says whether a value is small enough for anything to be promised of it, so that a walk through it ends.
func bounded(j api.Json) bool {
	s := survey{nest: deepest}
	return s.visit([]api.Json{j}, 1)
}

// checkSize looks at the lists alone, which a value of each Kind can have, valid or not.
func checkSize(j api.Json) api.Errno {
	s := survey{nest: api.MaxNest}
	s.visit([]api.Json{j}, 1)
	switch {
	case s.deep:
		return api.ErrDeep
	case s.count > api.MaxItems:
		return api.ErrTooLarge
	default:
		return api.OK
	}
}

// formed says whether a value and everything in it has the fields of its Kind; the names of an Object need not be different.
func formed(j api.Json) bool {
	if !fits(j) {
		return false
	}
	for _, part := range j.List {
		if !formed(part) {
			return false
		}
	}
	return true
}

// fits says whether the fields are those of the Kind; what is in List is not looked at.
func fits(j api.Json) bool {
	bare, flat := j.Text == "", len(j.Names) == 0 && len(j.List) == 0
	switch j.Kind {
	case api.Null, api.True, api.False:
		return bare && flat
	case api.Number:
		return canonical(j.Text) && flat
	case api.String:
		return utf.Valid(j.Text) && flat
	case api.Array:
		return bare && len(j.Names) == 0
	case api.Object:
		return bare && len(j.Names) == len(j.List) && !slices.ContainsFunc(j.Names, invalid)
	default:
		return false
	}
}

// canonical says whether a text is that of a decimal in its canonical form.
func canonical(s string) bool {
	own, e := dec.Own(s)
	return e == api.OK && own == s
}

func invalid(name string) bool { return !utf.Valid(name) }

// distinct says whether no Object in a value has a name twice.
func distinct(j api.Json) bool {
	known := names{}
	for _, name := range j.Names {
		if !known.add(name) {
			return false
		}
	}
	for _, part := range j.List {
		if !distinct(part) {
			return false
		}
	}
	return true
}

// names are those that an Object has so far.
type names map[string]struct{}

// add says whether a name is a new one.
func (n names) add(name string) bool {
	_, twice := n[name]
	n[name] = struct{}{}
	return !twice
}
