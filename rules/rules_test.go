// Package rules looks at the program's text: whether it keeps to the language that the program is written in.
package rules

import (
	"bytes"
	"go/ast"
	"go/format"
	"go/parser"
	"go/token"
	"io/fs"
	"os"
	"path/filepath"
	"slices"
	"strings"
	"testing"
)

// layers are the packages of the program; each may import those ahead of it.
var layers = strings.Fields("api octet tower pack span linpoly novel antt code weave perm sponge merkle multi talk cube expr line turn packv sumcheck zero claim ring pcs circuit lang witness gadget proof prove trial verify count frob judge")

// library are the packages of Go's library that may be imported.
var library = strings.Fields("bytes cmp container/heap errors iter maps math math/bits slices sort strconv strings sync sync/atomic unicode unicode/utf8")

// longest is how many lines a function has at most.
const longest = 60

// sources are the program's Go files, without those of tests, by their paths from the module's root.
func sources(t *testing.T) map[string][]byte {
	t.Helper()
	out := map[string][]byte{}
	err := filepath.WalkDir("..", func(path string, d fs.DirEntry, err error) error {
		if err != nil {
			return err
		}
		if d.IsDir() && (d.Name() == "sharedtests" || d.Name() == ".git") {
			return filepath.SkipDir
		}
		if d.IsDir() || !strings.HasSuffix(path, ".go") || strings.HasSuffix(path, "_test.go") {
			return nil
		}
		text, err := os.ReadFile(path)
		out[strings.TrimPrefix(filepath.ToSlash(path), "../")] = text
		return err
	})
	if err != nil {
		t.Fatal(err)
	}
	return out
}

// parsed hands each of the program's files on, parsed.
func parsed(t *testing.T, look func(path string, places *token.FileSet, file *ast.File)) {
	t.Helper()
	for path, text := range sources(t) {
		places := token.NewFileSet()
		file, err := parser.ParseFile(places, path, text, parser.ParseComments)
		if err != nil {
			t.Fatal(err)
		}
		look(path, places, file)
	}
}

func TestEachLayerIsThere(t *testing.T) {
	there := map[string]int{}
	for path := range sources(t) {
		there[filepath.Dir(path)]++
	}
	for _, layer := range layers {
		if there[layer] == 0 {
			t.Errorf("no package %s", layer)
		}
	}
}

func TestImports(t *testing.T) {
	parsed(t, func(path string, _ *token.FileSet, file *ast.File) {
		here := slices.Index(layers, filepath.Dir(path))
		for _, imported := range file.Imports {
			name := strings.Trim(imported.Path.Value, `"`)
			own, isOwn := strings.CutPrefix(name, "steeple/")
			if !isOwn && !slices.Contains(library, name) {
				t.Errorf("%s imports %s", path, name)
			}
			if isOwn && here >= 0 && slices.Index(layers, own) >= here {
				t.Errorf("%s imports %s, which is not below it", path, name)
			}
		}
	})
}

func TestLayout(t *testing.T) {
	for path, text := range sources(t) {
		if laid, err := format.Source(text); err != nil || !bytes.Equal(laid, text) {
			t.Errorf("%s is not in gofmt's layout", path)
		}
	}
}

func TestFunctionsAreShort(t *testing.T) {
	parsed(t, func(path string, places *token.FileSet, file *ast.File) {
		for _, decl := range file.Decls {
			f, ok := decl.(*ast.FuncDecl)
			if !ok {
				continue
			}
			if n := places.Position(f.End()).Line - places.Position(f.Pos()).Line + 1; n > longest {
				t.Errorf("%s: %s has %d lines", path, f.Name.Name, n)
			}
		}
	})
}

func TestNoDirectives(t *testing.T) {
	parsed(t, func(path string, _ *token.FileSet, file *ast.File) {
		for _, group := range file.Comments {
			for _, c := range group.List {
				if strings.HasPrefix(c.Text, "//go:") || strings.HasPrefix(c.Text, "// +build") {
					t.Errorf("%s: %s", path, c.Text)
				}
			}
		}
	})
}

// A listed call leaves it to inner functions to tell of which type something is.
func TestNoAssertionsInListedCalls(t *testing.T) {
	parsed(t, func(path string, places *token.FileSet, file *ast.File) {
		for _, decl := range file.Decls {
			f, ok := decl.(*ast.FuncDecl)
			if !ok || !f.Name.IsExported() {
				continue
			}
			ast.Inspect(f, func(n ast.Node) bool {
				if a, ok := n.(*ast.TypeAssertExpr); ok {
					t.Errorf("%s asserts a type in %s", places.Position(a.Pos()), f.Name.Name)
				}
				return true
			})
		}
	})
}
