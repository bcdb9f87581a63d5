package tests

import (
	"bytes"
	"go/ast"
	"go/format"
	"go/parser"
	"go/token"
	"os"
	"path/filepath"
	"strconv"
	"strings"
	"testing"
)

// What the language page says of the program's files, as far as their text shows it.

const (
	allowedImports = " bytes cmp container/heap errors iter maps math math/bits slices sort strconv strings sync sync/atomic unicode unicode/utf8 "
	longestBody    = 60
)

func TestLanguageOfTheProgram(t *testing.T) {
	files, err := filepath.Glob("../impl/*")
	if err != nil || len(files) == 0 {
		t.Fatal("no files", err)
	}
	for _, f := range files {
		if !strings.HasSuffix(f, ".go") || strings.HasSuffix(f, "_test.go") {
			t.Error("no file of the program's:", f)
			continue
		}
		text, err := os.ReadFile(f)
		if err != nil {
			t.Fatal(err)
		}
		if laidOut, err := format.Source(text); err != nil || !bytes.Equal(laidOut, text) {
			t.Error("not gofmt's layout:", f, err)
		}
		lookAtFile(t, f, text)
	}
}

func lookAtFile(t *testing.T, name string, text []byte) {
	t.Helper()
	set := token.NewFileSet()
	file, err := parser.ParseFile(set, name, text, parser.ParseComments)
	if err != nil {
		t.Fatal(err)
	}
	for _, i := range file.Imports {
		if path, _ := strconv.Unquote(i.Path.Value); !strings.Contains(allowedImports, " "+path+" ") {
			t.Error("import", path, "in", name)
		}
	}
	for _, group := range file.Comments {
		for _, c := range group.List {
			if strings.HasPrefix(c.Text, "//go:") || strings.HasPrefix(c.Text, "// +build") {
				t.Error("line", c.Text, "in", name)
			}
		}
	}
	for _, d := range file.Decls {
		if f, ok := d.(*ast.FuncDecl); ok {
			if lines := set.Position(f.End()).Line - set.Position(f.Pos()).Line + 1; lines > longestBody {
				t.Error(f.Name.Name, "has", lines, "lines in", name)
			}
		}
	}
}

func TestTopLevelFolders(t *testing.T) {
	entries, err := os.ReadDir("..")
	if err != nil {
		t.Fatal(err)
	}
	for _, e := range entries {
		// .git and sharedtests are the checkout's and .ci/run's, not the project's.
		if e.IsDir() && !strings.Contains(" .ci .git impl sharedtests tests ", " "+e.Name()+" ") {
			t.Error("folder", e.Name())
		}
	}
}
