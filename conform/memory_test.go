package conform_test

import (
	"fmt"
	"reflect"
	"slices"
	"sync"
	"testing"

	"topiary/api"
	"topiary/conform"
	"topiary/meta"
)

// A stretch is the memory of a list, the spare room behind it included.
type stretch struct {
	from, to uintptr
	of       string
}

// stretches are those of all lists of what is told, or handed in.
func stretches(v any, of string) []stretch {
	var out []stretch
	var look func(v reflect.Value, of string)
	look = func(v reflect.Value, of string) {
		switch v.Kind() {
		case reflect.Slice:
			if v.Cap() > 0 {
				out = append(out, stretch{v.Pointer(), v.Pointer() + uintptr(v.Cap())*v.Type().Elem().Size(), of})
			}
			for i := range v.Len() {
				look(v.Index(i), fmt.Sprint(of, " ", i))
			}
		case reflect.Struct:
			for i := range v.NumField() {
				look(v.Field(i), of+" "+v.Type().Field(i).Name)
			}
		}
	}
	look(reflect.ValueOf(v), of)
	return out
}

// apart tells of lists that share memory.
func apart(t *testing.T, l []stretch) {
	t.Helper()
	slices.SortFunc(l, func(a, b stretch) int { return int(a.from) - int(b.from) })
	for i, b := range l[min(1, len(l)):] {
		if a := l[i]; b.from < a.to {
			t.Fatalf("%s and %s share memory", a.of, b.of)
		}
	}
}

// fill sets all that a list, or anything, holds, the spare room of its lists included.
func fill(v reflect.Value) {
	switch v.Kind() {
	case reflect.Slice:
		whole := v.Slice3(0, v.Cap(), v.Cap())
		for i := range whole.Len() {
			fill(whole.Index(i))
		}
	case reflect.Struct:
		for i := range v.NumField() {
			fill(v.Field(i))
		}
	case reflect.String:
		v.SetString("scribbled")
	case reflect.Int:
		v.SetInt(77)
	}
}

func scribble[E any](l []E) { fill(reflect.ValueOf(l)) }

// copied is what is in v, in memory of its own; of each list as many elements as told, with so much spare room, in which something stands.
func copied[E any](v E, length func(v reflect.Value) int, spare int) E {
	var of func(v reflect.Value) reflect.Value
	of = func(v reflect.Value) reflect.Value {
		switch v.Kind() {
		case reflect.Slice:
			n := length(v)
			out := reflect.MakeSlice(v.Type(), n+spare, n+spare)
			fill(out)
			for i := range n {
				out.Index(i).Set(of(v.Slice(0, n).Index(i)))
			}
			return out.Slice(0, n)
		case reflect.Struct:
			out := reflect.New(v.Type()).Elem()
			for i := range v.NumField() {
				out.Field(i).Set(of(v.Field(i)))
			}
			return out
		}
		return v
	}
	return of(reflect.ValueOf(v)).Interface().(E)
}

// spacious is what is in v, its lists with spare room.
func spacious[E any](v E) E { return copied(v, reflect.Value.Len, 3) }

// kept is what is in v, with the spare room of its lists as part of them.
func kept[E any](v E) E { return copied(v, reflect.Value.Cap, 0) }

// An asked is what the calls are asked with.
type asked struct {
	table   *meta.Table
	m       api.Model
	old     []api.Mark
	touched []int
}

// cases are right ones and wrong ones, their lists with spare room.
func cases(t *testing.T) []asked {
	marks := []api.Mark{{Node: 2, Name: "a", Err: 7}, {Node: 1, Name: "b", Err: 7}, {Node: 2, Name: "c", Err: 7}, {Node: 99, Name: "d", Err: 7}}
	var out []asked
	a, b := tableOf(t, example()), tableOf(t, wide()...)
	both := modelOf(20, all(8, all(3)...)...)
	slices.SortFunc(both.Nodes, func(a, b api.Node) int { return a.ID - b.ID })
	for _, m := range append(wrongModels(), sample(), sound(), both, grove(), api.Model{Next: 1}) {
		for _, table := range []*meta.Table{a, b, nil} {
			for _, touched := range [][]int{{}, {1}, {9, 3, 0, -1, 3, 100}, {5, 4, 3, 2, 1}} {
				out = append(out, asked{table, spacious(m), spacious(marks), spacious(touched)})
			}
		}
	}
	return out
}

// answers is all that is told.
func (a asked) answers() [][]api.Mark {
	var out [][]api.Mark
	whole, _ := conform.Marks(a.table, a.m)
	again, _ := conform.Again(a.table, a.m, a.old, a.touched)
	out = append(out, whole, again)
	for id := -1; id < 12; id++ {
		at, _ := conform.At(a.table, a.m, id)
		out = append(out, at)
	}
	return out
}

// P0.4: what is handed in stays as it is, the spare room too; what is answered shares nothing with it, nor among itself.
func TestMemory(t *testing.T) {
	for _, a := range cases(t) {
		m, old, touched := kept(a.m), kept(a.old), kept(a.touched)
		l := slices.Concat(stretches(a.m.Nodes, "the model"), stretches(a.old, "old"), stretches(a.touched, "touched"))
		for i := range 2 {
			l = append(l, stretches(a.answers(), fmt.Sprint("answer ", i))...)
		}
		conform.Stands(a.old)
		apart(t, l)
		if !reflect.DeepEqual(kept(a.m), m) || !reflect.DeepEqual(kept(a.old), old) || !reflect.DeepEqual(kept(a.touched), touched) {
			t.Fatalf("handed in: %+v, then %+v", m, a.m)
		}
	}
}

// P0.3, P0.4: what is done to an answer, or later to what was handed in, changes nothing else.
func TestNothingKept(t *testing.T) {
	for _, a := range cases(t) {
		want := a.answers()
		first, second := a.answers(), a.answers()
		scribble(first)
		if !reflect.DeepEqual(second, want) || !reflect.DeepEqual(a.answers(), want) {
			t.Fatalf("%+v, then %+v", want, a.answers())
		}
		fresh := asked{a.table, spacious(a.m), spacious(a.old), spacious(a.touched)}
		scribble(a.m.Nodes)
		scribble(a.old)
		scribble(a.touched)
		if !reflect.DeepEqual(second, want) || !reflect.DeepEqual(fresh.answers(), want) {
			t.Fatalf("%+v, then %+v", want, fresh.answers())
		}
	}
}

// P0.2, P0.4: lists that are nil and empty ones are the same.
func TestNilLists(t *testing.T) {
	table := tableOf(t, example())
	one, two := sample(), sample()
	for i := range two.Nodes {
		n := &two.Nodes[i]
		n.Props, n.Kids, n.Refs = append([]api.Prop{}, n.Props...), append([]int{}, n.Kids...), append([]api.Ref{}, n.Refs...)
	}
	a, e := conform.Again(table, one, nil, nil)
	b, f := conform.Again(table, two, []api.Mark{}, []int{})
	if e != api.OK || f != api.OK || len(a)+len(b) > 0 {
		t.Errorf("again of nothing: %v, %d; %v, %d", a, e, b, f)
	}
	a, _ = conform.Marks(table, one)
	b, _ = conform.Marks(table, two)
	if len(a) != 2 || !slices.Equal(a, b) {
		t.Errorf("%v and %v", a, b)
	}
	if !conform.Stands(nil) || !conform.Stands([]api.Mark{}) {
		t.Error("stands")
	}
}

// P0.3: one table, asked out of several hands at once.
func TestManyHands(t *testing.T) {
	for _, a := range cases(t)[:40] {
		want := a.answers()
		var all sync.WaitGroup
		for range 4 {
			all.Add(1)
			go func() {
				defer all.Done()
				if !reflect.DeepEqual(a.answers(), want) {
					t.Error("otherwise")
				}
			}()
		}
		all.Wait()
	}
}
