package tests

import (
	"bytes"
	"go/ast"
	"go/format"
	"go/parser"
	"go/token"
	"os"
	"path/filepath"
	"strings"
	"testing"
)

const (
	allowedImports   = " bytes cmp container/heap errors iter maps math math/bits slices sort strconv strings sync sync/atomic unicode unicode/utf8 "
	mostLines        = 60
	codeOfTheProgram = "../impl"
)

func programFiles(t *testing.T) []string {
	t.Helper()
	files, err := filepath.Glob(filepath.Join(codeOfTheProgram, "*"))
	if err != nil || len(files) == 0 {
		t.Fatal("no files of the program:", err)
	}
	return files
}

// The rules of the language page that a look at the text tells.
func TestLanguage(t *testing.T) {
	for _, path := range programFiles(t) {
		if !strings.HasSuffix(path, ".go") {
			t.Errorf("%s is no Go file", path)
			continue
		}
		text, err := os.ReadFile(path)
		if err != nil {
			t.Fatal(err)
		}
		laid, err := format.Source(text)
		if err != nil || !bytes.Equal(text, laid) {
			t.Errorf("%s is not in gofmt's layout: %v", path, err)
		}
		if bytes.Contains(text, []byte("//go:")) || bytes.Contains(text, []byte("// +build")) {
			t.Errorf("%s has a line for the compiler", path)
		}
		set := token.NewFileSet()
		file, err := parser.ParseFile(set, path, text, parser.ParseComments)
		if err != nil {
			t.Fatal(err)
		}
		checkImports(t, path, file)
		checkLengths(t, set, file)
	}
}

func checkImports(t *testing.T, path string, file *ast.File) {
	t.Helper()
	for _, spec := range file.Imports {
		name := strings.Trim(spec.Path.Value, "\"")
		if !strings.Contains(allowedImports, " "+name+" ") && !strings.HasPrefix(name, "loop.example/g00168/") {
			t.Errorf("%s imports %s", path, name)
		}
	}
}

func checkLengths(t *testing.T, set *token.FileSet, file *ast.File) {
	t.Helper()
	for _, decl := range file.Decls {
		f, ok := decl.(*ast.FuncDecl)
		if !ok {
			continue
		}
		lines := set.Position(f.End()).Line - set.Position(f.Pos()).Line + 1
		if lines > mostLines {
			t.Errorf("%s has %d lines", f.Name.Name, lines)
		}
	}
}
