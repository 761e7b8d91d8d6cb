// Package language holds the program's files against the language that it is written in.
package language

import (
	"bytes"
	"go/ast"
	"go/format"
	"go/parser"
	"go/token"
	"io/fs"
	"os"
	"path/filepath"
	"slices"
	"strconv"
	"strings"
	"testing"
)

const root = ".."

const longest = 60

// library: what may be imported beside the project's own packages.
var library = []string{
	"bytes", "cmp", "container/heap", "errors", "iter", "maps", "math", "math/bits", "slices", "sort",
	"strconv", "strings", "sync", "sync/atomic", "unicode", "unicode/utf8",
}

// layers: the packages that the document's map lists, and api.
var layers = []string{
	"api", "num", "event", "lex", "parse", "show", "check", "code", "plan", "pile", "gate", "stacks", "guard", "hunt",
	"due", "shard", "engine", "save", "merge", "sluice", "lag", "wire", "journal", "durable", "cascade", "serve", "hub",
	"farm", "replica", "evolve", "audit", "explain",
}

// programFiles: the files of the program itself, without tests and without what is laid beside it.
func programFiles(t *testing.T) []string {
	var out []string
	err := filepath.WalkDir(root, func(path string, d fs.DirEntry, err error) error {
		if err != nil {
			return err
		}
		name := d.Name()
		if d.IsDir() {
			if name == "sharedtests" || name == "testdata" || name != root && strings.HasPrefix(name, ".") {
				return filepath.SkipDir
			}
			return nil
		}
		if strings.HasSuffix(name, ".go") && !strings.HasSuffix(name, "_test.go") {
			out = append(out, path)
		}
		return nil
	})
	if err != nil {
		t.Fatal(err)
	}
	return out
}

func TestLayersAreThere(t *testing.T) {
	files := programFiles(t)
	for _, l := range layers {
		if !slices.Contains(files, filepath.Join(root, l, l+".go")) {
			t.Errorf("package %s is missing", l)
		}
	}
}

func TestFilesKeepToTheLanguage(t *testing.T) {
	for _, path := range programFiles(t) {
		text, err := os.ReadFile(path)
		if err != nil {
			t.Fatal(err)
		}
		set := token.NewFileSet()
		file, err := parser.ParseFile(set, path, text, parser.ParseComments)
		if err != nil {
			t.Errorf("%s: %v", path, err)
			continue
		}
		if laid, err := format.Source(text); err != nil || !bytes.Equal(laid, text) {
			t.Errorf("%s is not laid out by gofmt", path)
		}
		checkImports(t, path, file)
		checkComments(t, path, file)
		checkLengths(t, set, path, file)
	}
}

func checkImports(t *testing.T, path string, file *ast.File) {
	for _, i := range file.Imports {
		name, _ := strconv.Unquote(i.Path.Value)
		if !strings.HasPrefix(name, "sluice/") && !slices.Contains(library, name) {
			t.Errorf("%s imports %s", path, name)
		}
	}
}

func checkComments(t *testing.T, path string, file *ast.File) {
	for _, g := range file.Comments {
		for _, c := range g.List {
			if strings.HasPrefix(c.Text, "//go:") || strings.HasPrefix(c.Text, "// +build") {
				t.Errorf("%s has a line for the compiler: %s", path, c.Text)
			}
		}
	}
}

func checkLengths(t *testing.T, set *token.FileSet, path string, file *ast.File) {
	for _, d := range file.Decls {
		f, ok := d.(*ast.FuncDecl)
		if !ok {
			continue
		}
		if n := set.Position(f.End()).Line - set.Position(f.Pos()).Line + 1; n > longest {
			t.Errorf("%s: %s has %d lines", path, f.Name.Name, n)
		}
	}
}
