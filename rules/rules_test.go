// Package rules: tests that the program keeps to its language.
package rules

import (
	"bytes"
	"crypto/sha256"
	"encoding/hex"
	"go/ast"
	"go/format"
	"go/parser"
	"go/token"
	"io/fs"
	"os"
	"path/filepath"
	"strconv"
	"strings"
	"testing"
)

const library = " bytes cmp container/heap errors iter maps math math/bits slices sort strconv strings sync sync/atomic unicode unicode/utf8 "

// only: what may be used of packages that may not be used whole; not: what may not.
func only() map[string]string { return map[string]string{"sync": " Mutex RWMutex WaitGroup Once "} }
func not() map[string]string  { return map[string]string{"iter": " Pull Pull2 "} }

// eachFile of the program, without tests and what .ci/run lays beside it.
func eachFile(t *testing.T, see func(path string, text []byte, set *token.FileSet, f *ast.File)) {
	t.Helper()
	seen := 0
	err := filepath.WalkDir("..", func(path string, d fs.DirEntry, err error) error {
		if err != nil {
			return err
		}
		if d.IsDir() {
			if n := d.Name(); n == "sharedtests" || n == ".git" {
				return fs.SkipDir
			}
			return nil
		}
		if !strings.HasSuffix(path, ".go") || strings.HasSuffix(path, "_test.go") {
			return nil
		}
		text, err := os.ReadFile(path)
		if err != nil {
			return err
		}
		set := token.NewFileSet()
		f, err := parser.ParseFile(set, path, text, parser.ParseComments)
		if err != nil {
			return err
		}
		seen++
		see(path, text, set, f)
		return nil
	})
	if err != nil {
		t.Fatal(err)
	}
	if seen < 14 {
		t.Fatalf("only %d files were seen", seen)
	}
}

func TestImports(t *testing.T) {
	eachFile(t, func(path string, _ []byte, _ *token.FileSet, f *ast.File) {
		for _, i := range f.Imports {
			from, err := strconv.Unquote(i.Path.Value)
			if err != nil {
				t.Fatal(err)
			}
			if !strings.HasPrefix(from, "jobcase/") && !strings.Contains(library, " "+from+" ") {
				t.Errorf("%s imports %s", path, from)
			}
			if i.Name != nil {
				t.Errorf("%s gives %s another name", path, from)
			}
		}
		ast.Inspect(f, func(n ast.Node) bool {
			x, ok := n.(*ast.SelectorExpr)
			if !ok {
				return true
			}
			p, ok := x.X.(*ast.Ident)
			if !ok {
				return true
			}
			most, some := only()[p.Name]
			if word := " " + x.Sel.Name + " "; some && !strings.Contains(most, word) || strings.Contains(not()[p.Name], word) {
				t.Errorf("%s uses %s.%s", path, p.Name, x.Sel.Name)
			}
			return true
		})
	})
}

func TestNoLinesForTheCompiler(t *testing.T) {
	eachFile(t, func(path string, _ []byte, _ *token.FileSet, f *ast.File) {
		for _, g := range f.Comments {
			for _, c := range g.List {
				if strings.HasPrefix(c.Text, "//go:") || strings.HasPrefix(c.Text, "// +build") {
					t.Errorf("%s has the line %s", path, c.Text)
				}
			}
		}
	})
}

func TestLayoutAndLength(t *testing.T) {
	eachFile(t, func(path string, text []byte, set *token.FileSet, f *ast.File) {
		laid, err := format.Source(text)
		if err != nil {
			t.Fatal(err)
		}
		if !bytes.Equal(laid, text) {
			t.Errorf("%s isn't in gofmt's layout", path)
		}
		for _, d := range f.Decls {
			x, ok := d.(*ast.FuncDecl)
			if !ok {
				continue
			}
			if n := set.Position(x.End()).Line - set.Position(x.Pos()).Line + 1; n > 60 {
				t.Errorf("%s: %s has %d lines", path, x.Name.Name, n)
			}
		}
	})
}

// TestPackageVariables: at package level stand tables written out, and errors made by errors.New.
func TestPackageVariables(t *testing.T) {
	eachFile(t, func(path string, _ []byte, _ *token.FileSet, f *ast.File) {
		for _, d := range f.Decls {
			x, ok := d.(*ast.GenDecl)
			if !ok || x.Tok != token.VAR {
				continue
			}
			for _, s := range x.Specs {
				v := s.(*ast.ValueSpec)
				if len(v.Values) != len(v.Names) {
					t.Errorf("%s: %s has no value of its own", path, v.Names[0].Name)
				}
				for i, value := range v.Values {
					if !writtenOut(value) {
						t.Errorf("%s: the value of %s isn't written out", path, v.Names[i].Name)
					}
				}
			}
		}
	})
}

func writtenOut(value ast.Expr) bool {
	fine := true
	ast.Inspect(value, func(n ast.Node) bool {
		switch x := n.(type) {
		case *ast.MapType, *ast.FuncLit:
			fine = false
		case *ast.UnaryExpr:
			fine = fine && x.Op != token.AND
		case *ast.CallExpr:
			f, ok := x.Fun.(*ast.SelectorExpr)
			if !ok || f.Sel.Name != "New" {
				fine = false
			}
		}
		return true
	})
	return fine
}

// TestGiven: package api lies as it was given, and alone in its folder.
func TestGiven(t *testing.T) {
	text, err := os.ReadFile("../api/api.go")
	if err != nil {
		t.Fatal(err)
	}
	sum := sha256.Sum256(text)
	if got := hex.EncodeToString(sum[:]); got != givenAPI {
		t.Errorf("api.go has the digest %s", got)
	}
	l, err := os.ReadDir("../api")
	if err != nil {
		t.Fatal(err)
	}
	if len(l) != 1 {
		t.Errorf("%d files lie in api", len(l))
	}
}

const givenAPI = "5da699adaaea0c4623d7a5a30289af1423f3b72bef8686745776058d7cb258c0"

// TestFolders: of what lies in a package's folder there are Go files alone, and no name is taken that isn't free.
func TestFolders(t *testing.T) {
	l, err := os.ReadDir("..")
	if err != nil {
		t.Fatal(err)
	}
	for _, d := range l {
		n := d.Name()
		if !d.IsDir() || strings.HasPrefix(n, ".") || n == "sharedtests" {
			continue
		}
		if n == "form" || n == "try" || strings.HasPrefix(n, "jobcase") {
			t.Errorf("a folder is named %s", n)
		}
		in, err := os.ReadDir(filepath.Join("..", n))
		if err != nil {
			t.Fatal(err)
		}
		for _, e := range in {
			if e.IsDir() || !strings.HasSuffix(e.Name(), ".go") {
				t.Errorf("%s lies in %s", e.Name(), n)
			}
		}
	}
}
