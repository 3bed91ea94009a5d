package tests

import (
	"bytes"
	"go/ast"
	"go/build"
	"go/format"
	"go/parser"
	"go/token"
	"os"
	"path/filepath"
	"slices"
	"strconv"
	"testing"
)

var allowedImports = []string{
	"bytes", "cmp", "container/heap", "errors", "iter", "maps", "math", "math/bits", "slices", "sort",
	"strconv", "strings", "sync", "sync/atomic", "unicode", "unicode/utf8",
}

// The program keeps to the imports, the layout and the length of functions that its language allows.
func TestProgramKeepsToItsLanguage(t *testing.T) {
	names, err := filepath.Glob("../impl/*")
	if err != nil || len(names) == 0 {
		t.Fatal("no program", err)
	}
	for _, name := range names {
		text, err := os.ReadFile(name)
		if err != nil {
			t.Fatal(err)
		}
		if laid, err := format.Source(text); err != nil || !bytes.Equal(laid, text) {
			t.Errorf("%s is not in gofmt's layout: %v", name, err)
		}
		places := token.NewFileSet()
		f, err := parser.ParseFile(places, name, text, parser.SkipObjectResolution)
		if err != nil {
			t.Fatal(err)
		}
		for _, i := range f.Imports {
			if path, _ := strconv.Unquote(i.Path.Value); !slices.Contains(allowedImports, path) {
				t.Errorf("%s imports %s", name, path)
			}
		}
		for _, d := range f.Decls {
			if fn, ok := d.(*ast.FuncDecl); ok && places.Position(fn.End()).Line-places.Position(fn.Pos()).Line > 60 {
				t.Errorf("%s: %s is longer than 60 lines", name, fn.Name.Name)
			}
		}
	}
}

// A file whose name ends in a system's (such as _windows_test.go) is left out without a word, and all its tests with it.
func TestEveryFileIsBuilt(t *testing.T) {
	for _, folder := range []string{"../impl", "."} {
		names, err := filepath.Glob(filepath.Join(folder, "*.go"))
		if err != nil || len(names) == 0 {
			t.Fatal("no files", err)
		}
		for _, name := range names {
			for _, system := range []string{"linux", "plan9"} {
				there := build.Default
				there.GOOS = system
				if built, err := there.MatchFile(folder, filepath.Base(name)); err != nil || !built {
					t.Errorf("%s is left out on %s: %v", name, system, err)
				}
			}
		}
	}
}
