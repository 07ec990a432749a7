package meta_test

import (
	"fmt"
	"reflect"
	"slices"
	"testing"

	"topiary/api"
	"topiary/meta"
)

// A stretch is the memory of a list, the spare room behind it included.
type stretch struct {
	from, to uintptr
	of       string
}

// stretches are those of all lists of an answer; in those that have no element there is none.
func stretches(v any, of string) []stretch {
	var out []stretch
	var look func(v reflect.Value, of string)
	look = func(v reflect.Value, of string) {
		switch v.Kind() {
		case reflect.Slice:
			if v.Cap() > 0 {
				out = append(out, stretch{v.Pointer(), v.Pointer() + uintptr(v.Cap())*v.Type().Elem().Size(), of})
			}
			for i := range v.Len() {
				look(v.Index(i), fmt.Sprint(of, " ", i))
			}
		case reflect.Struct:
			for i := range v.NumField() {
				look(v.Field(i), of+" "+v.Type().Field(i).Name)
			}
		}
	}
	look(reflect.ValueOf(v), of)
	return slices.DeleteFunc(out, func(s stretch) bool { return s.from == s.to })
}

// apart tells of lists that share memory.
func apart(t *testing.T, l []stretch) {
	t.Helper()
	slices.SortFunc(l, func(a, b stretch) int { return int(a.from) - int(b.from) })
	for i, b := range l[min(1, len(l)):] {
		if a := l[i]; b.from < a.to {
			t.Fatalf("%s and %s share memory", a.of, b.of)
		}
	}
}

// fill sets all that a list, or anything, holds, the spare room of its lists included.
func fill(v reflect.Value) {
	switch v.Kind() {
	case reflect.Slice:
		whole := v.Slice3(0, v.Cap(), v.Cap())
		for i := range whole.Len() {
			fill(whole.Index(i))
		}
	case reflect.Struct:
		for i := range v.NumField() {
			fill(v.Field(i))
		}
	case reflect.String:
		v.SetString("scribbled")
	case reflect.Int:
		v.SetInt(77)
	case reflect.Bool:
		v.SetBool(!v.Bool())
	}
}

func scribble[E any](l []E) {
	fill(reflect.ValueOf(l))
}

// spacious is what is in v, its lists in memory of their own with spare room, in which something stands.
func spacious[E any](v E) E {
	var copied func(v reflect.Value) reflect.Value
	copied = func(v reflect.Value) reflect.Value {
		switch v.Kind() {
		case reflect.Slice:
			out := reflect.MakeSlice(v.Type(), v.Len()+2, v.Len()+2)
			fill(out)
			for i := range v.Len() {
				out.Index(i).Set(copied(v.Index(i)))
			}
			return out.Slice(0, v.Len())
		case reflect.Struct:
			out := reflect.New(v.Type()).Elem()
			for i := range v.NumField() {
				out.Field(i).Set(copied(v.Field(i)))
			}
			return out
		}
		return v
	}
	return copied(reflect.ValueOf(v)).Interface().(E)
}

// kept is what is in v, with the spare room of its lists as part of them.
func kept[E any](v E) E {
	var copied func(v reflect.Value) reflect.Value
	copied = func(v reflect.Value) reflect.Value {
		switch v.Kind() {
		case reflect.Slice:
			out := reflect.MakeSlice(v.Type(), v.Cap(), v.Cap())
			for i := range v.Cap() {
				out.Index(i).Set(copied(v.Slice(0, v.Cap()).Index(i)))
			}
			return out
		case reflect.Struct:
			out := reflect.New(v.Type()).Elem()
			for i := range v.NumField() {
				out.Field(i).Set(copied(v.Field(i)))
			}
			return out
		}
		return v
	}
	return copied(reflect.ValueOf(v)).Interface().(E)
}

// everything is what a table tells.
func everything(m *meta.Table) []told {
	var out []told
	for _, n := range append(m.Concepts(), others...) {
		out = append(out, toldOf(m, n))
	}
	return out
}

// P0.4: what is handed in stays as it is, the spare room too; what is answered shares nothing with it, nor among itself.
func TestMemory(t *testing.T) {
	wrong := whole()
	wrong[3].Equations[0].Concept = "none"
	for _, ls := range [][]api.Language{spacious(whole()), spacious(both()), spacious(wrong), spacious(made(newDice(1))), spacious(made(newDice(7))), spacious([]api.Language{})} {
		was := kept(ls)
		m, _ := meta.New(ls)
		answers := stretches(ls, "handed in")
		for i := range 2 {
			answers = append(answers, stretches(m.Concepts(), fmt.Sprint("Concepts ", i))...)
			for _, n := range m.Concepts() {
				told := toldOf(m, n)
				told.Scopes = nil
				answers = append(answers, stretches(told, fmt.Sprint("of ", n, " ", i))...)
			}
		}
		apart(t, answers)
		if !isSame(kept(ls), was) {
			t.Errorf("handed in: %+v, then %+v", was, kept(ls))
		}
	}
}

// P0.4, P5.1: what is done to the languages that were handed in changes nothing of the table, wherever it is done.
func TestNothingKept(t *testing.T) {
	for _, ls := range [][]api.Language{spacious(whole()), spacious(both())} {
		m, _ := meta.New(ls)
		want := everything(m)
		scribble(ls)
		if got := everything(m); !isSame(got, want) {
			t.Errorf("%+v, then %+v", want, got)
		}
		if !m.Below(m.Concepts()[0], m.Concepts()[0]) {
			t.Error("Below")
		}
	}
}

// P0.3, P0.4: what is done to an answer changes nothing of a later one.
func TestAnswersAreNew(t *testing.T) {
	m, _ := meta.New(whole())
	want, names := everything(m), m.Concepts()
	scribble(m.Concepts())
	for _, n := range names {
		told := []told{toldOf(m, n)}
		scribble(told)
		if got := everything(m); !isSame(got, want) {
			t.Errorf("after %s: %+v, then %+v", n, want, got)
		}
	}
	answers(t, "whole", m, whole())
}

// P0.3, P5.1: what New refuses, and what it made ahead, makes nothing of what it makes later.
func TestNothingLeft(t *testing.T) {
	m := tells(t, "a b", both(), api.Fault{})
	uses := m.Uses()
	tells(t, "b", both()[1:], api.Fault{In: 2, Err: api.ErrUnknown})
	tells(t, "whole", whole(), api.Fault{})
	if m.Uses() != uses {
		t.Errorf("Uses %d, then %d", uses, m.Uses())
	}
	answers(t, "a b again", m, both())
}
