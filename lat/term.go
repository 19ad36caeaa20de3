package lat

import (
	"slices"
	"strings"

	"treillage/api"
	"treillage/name"
	"treillage/scalar"
)

// rightTerm tells whether a term is right, if right tells it of its fields' values.
func rightTerm(t api.Term, right func(v api.Value) bool) bool {
	if t.Kind != api.KAny && t.Kind != api.KStruct {
		return scalar.Right(t)
	}
	if t.Lo != 0 || t.Hi != 0 || t.Text != "" || t.Any || t.Maybe {
		return false
	}
	if t.Kind == api.KAny {
		return !t.Open && len(t.Fields) == 0
	}
	return rightFields(t.Fields, right) && !slices.ContainsFunc(t.Fields, empty)
}

// rightFields tells whether a struct may have some fields, or, if one is empty, might have them otherwise.
func rightFields(l []api.Field, right func(v api.Value) bool) bool {
	if len(l) > api.MaxFields {
		return false
	}
	names := make([]string, 0, len(l))
	for _, f := range l {
		names = append(names, f.Name)
	}
	wrong := func(f api.Field) bool { return !right(f.V) }
	return name.Rising(names...) && !slices.ContainsFunc(l, wrong)
}

// empty tells whether a field's value is none.
func empty(f api.Field) bool {
	return len(f.V.Terms) == 0
}

// below tells whether a right term is below another one. Terms are great, and a value may have every two of its own asked, so they are not copied for it.
func below(s, t *api.Term) bool {
	switch {
	case t.Kind == api.KAny:
		return true
	case s.Kind != t.Kind:
		return false
	case t.Kind == api.KStruct:
		return belowStruct(s, t)
	}
	// Most scalars that are held against each other are apart, which their ends and texts tell at once.
	return t.Lo <= s.Lo && s.Hi <= t.Hi && (t.Any || t.Text == s.Text) && scalar.Below(*s, *t)
}

// belowStruct tells whether a right struct is below another one.
func belowStruct(s, t *api.Term) bool {
	if s.Open && !t.Open || refuses(t, s) || slices.ContainsFunc(t.Fields, lacking(s)) {
		return false
	}
	for _, f := range t.Fields {
		own, _ := find(s, f.Name)
		if !under(own, f.V) {
			return false
		}
	}
	return true
}

// common is what two right terms have in common: one term, or none.
func common(s, t api.Term) ([]api.Term, api.Errno) {
	switch {
	case s.Kind == api.KAny:
		return []api.Term{t}, api.OK
	case t.Kind == api.KAny:
		return []api.Term{s}, api.OK
	case s.Kind == api.KStruct && t.Kind == api.KStruct:
		return commonStruct(&s, &t)
	}
	both, ok := scalar.Meet(s, t)
	if !ok {
		return nil, api.OK
	}
	return []api.Term{both}, api.OK
}

// commonStruct is what two right structs have in common: one struct, or none.
func commonStruct(s, t *api.Term) ([]api.Term, api.Errno) {
	if refuses(s, t) || refuses(t, s) {
		return nil, api.OK
	}
	fields := united(s, t)
	for i, f := range fields {
		v, here := find(s, f.Name)
		w, there := find(t, f.Name)
		if !here || !there {
			continue
		}
		both, e := meet(v, w)
		if e != api.OK || len(both.Terms) == 0 {
			return nil, e
		}
		fields[i].V = both
	}
	// That there are too many is told last, since a field behind may have shown that nothing is in common.
	if len(fields) > api.MaxFields {
		return nil, api.ErrWide
	}
	return []api.Term{{Kind: api.KStruct, Open: s.Open && t.Open, Fields: fields}}, api.OK
}

// united is the fields of a struct, and those of another one that it lacks, as they rise.
func united(s, t *api.Term) []api.Field {
	l := slices.Clone(s.Fields)
	lacks := lacking(s)
	for _, f := range t.Fields {
		if lacks(f) {
			l = append(l, f)
		}
	}
	slices.SortFunc(l, func(f, g api.Field) int { return strings.Compare(f.Name, g.Name) })
	return l
}

// refuses tells whether a struct has no place for a field of another one, as it is not Open, and lacks it.
func refuses(s, t *api.Term) bool {
	return !s.Open && slices.ContainsFunc(t.Fields, lacking(s))
}

// lacking is what tells whether a struct lacks a field.
func lacking(s *api.Term) func(f api.Field) bool {
	return func(f api.Field) bool {
		_, ok := find(s, f.Name)
		return !ok
	}
}

// find is the value of a struct's field.
func find(s *api.Term, key string) (api.Value, bool) {
	for _, f := range s.Fields {
		if f.Name == key {
			return f.V, true
		}
	}
	return api.Value{}, false
}
