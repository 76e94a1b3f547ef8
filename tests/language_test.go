package tests

import (
	"bytes"
	"go/ast"
	"go/format"
	"go/parser"
	"go/token"
	"os"
	"path/filepath"
	"strings"
	"testing"
)

const maxLines = 60

// What the language page lets the program import.
const mayImport = " bytes cmp container/heap errors iter maps math math/bits slices sort strconv strings sync sync/atomic unicode unicode/utf8 "

// Each file of the program keeps to those rules of the language that its text alone shows.
func TestLanguage(t *testing.T) {
	files, err := filepath.Glob("../impl/*")
	if err != nil || len(files) == 0 {
		t.Fatal("no program", err)
	}
	for _, name := range files {
		if !strings.HasSuffix(name, ".go") {
			t.Errorf("%s: not a Go file", name)
			continue
		}
		text, err := os.ReadFile(name)
		if err != nil {
			t.Fatal(err)
		}
		if tidy, err := format.Source(text); err != nil || !bytes.Equal(tidy, text) {
			t.Errorf("%s: not in gofmt's layout %v", name, err)
		}
		places := token.NewFileSet()
		file, err := parser.ParseFile(places, name, text, parser.ParseComments)
		if err != nil {
			t.Fatal(err)
		}
		lookAtFile(t, places, file)
	}
}

func lookAtFile(t *testing.T, places *token.FileSet, file *ast.File) {
	for _, i := range file.Imports {
		if path := strings.Trim(i.Path.Value, "\"`"); !strings.Contains(mayImport, " "+path+" ") {
			t.Errorf("%v: import of %s", places.Position(i.Pos()), path)
		}
	}
	for _, group := range file.Comments {
		for _, c := range group.List {
			if strings.HasPrefix(c.Text, "//go:") || strings.HasPrefix(c.Text, "// +build") {
				t.Errorf("%v: %s", places.Position(c.Pos()), c.Text)
			}
		}
	}
	for _, d := range file.Decls {
		f, ok := d.(*ast.FuncDecl)
		if !ok {
			continue
		}
		if lines := places.Position(f.End()).Line - places.Position(f.Pos()).Line + 1; lines > maxLines {
			t.Errorf("%v: %s has %d lines", places.Position(f.Pos()), f.Name.Name, lines)
		}
	}
}
