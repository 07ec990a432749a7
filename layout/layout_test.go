// Package layout holds the layers' packages against the document's map and the rules of the program's language.
package layout

import (
	"bytes"
	"go/ast"
	"go/format"
	"go/parser"
	"go/token"
	"os"
	"path/filepath"
	"slices"
	"strconv"
	"strings"
	"testing"
)

// layers are the packages, from layer 1 on, each with the numbers of those that it may call.
var layers = []struct {
	name  string
	calls []int
}{
	{"names", nil},
	{"arena", nil},
	{"sheet", []int{1, 2}},
	{"lang", []int{1}},
	{"meta", []int{4}},
	{"conform", []int{1, 2, 5}},
	{"lex", []int{1}},
	{"expr", []int{1, 7}},
	{"kinds", []int{8}},
	{"denote", []int{1, 2, 5, 8}},
	{"code", []int{1, 8}},
	{"machine", []int{1, 2, 5, 11}},
	{"scope", []int{2, 5, 8, 11, 12}},
	{"menu", []int{2, 5, 13}},
	{"unify", []int{1}},
	{"typing", []int{1, 2, 5, 15}},
	{"cells", []int{5}},
	{"project", []int{1, 2, 5, 17}},
	{"actions", []int{1, 2, 5, 6, 13, 14}},
	{"templ", []int{1, 5, 8}},
	{"gen", []int{1, 2, 5, 13, 20}},
	{"diff", []int{1, 4}},
	{"migrate", []int{1, 2, 5}},
	{"modules", []int{4, 5}},
	{"boot", []int{1, 2, 4, 5, 17}},
	{"compile", []int{1, 2, 4, 6, 25}},
	{"history", []int{2}},
	{"forge", []int{1, 2, 5, 6, 8, 13, 16, 17, 18, 19, 20, 21, 23, 24, 25, 26, 27}},
	{"script", nil},
	{"shell", []int{1, 3, 5, 14, 16, 19, 25, 28, 29}},
}

// library is what may be imported of Go's own library.
const library = " bytes cmp container/heap errors iter maps math math/bits slices sort strconv strings sync sync/atomic unicode unicode/utf8 "

func TestImports(t *testing.T) {
	for _, l := range layers {
		for _, f := range sources(t, l.name) {
			for _, i := range parse(t, f).Imports {
				path, _ := strconv.Unquote(i.Path.Value)
				if !strings.Contains(library, " "+path+" ") && path != "topiary/api" && !mayCall(l.calls, path) {
					t.Errorf("%s imports %s", f, path)
				}
			}
		}
	}
}

func mayCall(calls []int, path string) bool {
	return slices.ContainsFunc(calls, func(n int) bool { return path == "topiary/"+layers[n-1].name })
}

func TestLayout(t *testing.T) {
	for _, l := range layers {
		for _, f := range sources(t, l.name) {
			text, err := os.ReadFile(f)
			if err != nil {
				t.Fatal(err)
			}
			if laid, err := format.Source(text); err != nil || !bytes.Equal(laid, text) {
				t.Errorf("%s: not gofmt's layout", f)
			}
			if bytes.Contains(text, []byte("//go:")) || bytes.Contains(text, []byte("// +build")) {
				t.Errorf("%s: a line for the compiler", f)
			}
		}
	}
}

func TestShortFunctions(t *testing.T) {
	for _, l := range layers {
		for _, f := range sources(t, l.name) {
			set := token.NewFileSet()
			file, err := parser.ParseFile(set, f, nil, 0)
			if err != nil {
				t.Fatal(err)
			}
			for _, d := range file.Decls {
				if d, ok := d.(*ast.FuncDecl); ok {
					if n := set.Position(d.End()).Line - set.Position(d.Pos()).Line + 1; n > 60 {
						t.Errorf("%s: %s has %d lines", f, d.Name.Name, n)
					}
				}
			}
		}
	}
}

// sources are the Go files of a package, without its tests.
func sources(t *testing.T, name string) []string {
	all, err := filepath.Glob(filepath.Join("..", name, "*"))
	if err != nil || len(all) == 0 {
		t.Fatalf("package %s: no file, %v", name, err)
	}
	var out []string
	for _, f := range all {
		if strings.HasSuffix(f, "_test.go") {
			continue
		}
		if !strings.HasSuffix(f, ".go") {
			t.Errorf("%s is no Go file", f)
			continue
		}
		out = append(out, f)
	}
	return out
}

func parse(t *testing.T, f string) *ast.File {
	file, err := parser.ParseFile(token.NewFileSet(), f, nil, parser.ImportsOnly)
	if err != nil {
		t.Fatal(err)
	}
	return file
}
