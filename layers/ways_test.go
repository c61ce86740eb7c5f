package layers

import (
	"go/ast"
	"go/token"
	"path/filepath"
	"strings"
	"testing"
)

// ways is what the document's section 'Ways' asks of the layers that are
// built, as far as the text alone shows it.
const ways = `
octet array method-value
crc constant-table
stamp constant-table label
utf fallthrough
ber label
oid three-index
value fallthrough
pdu array
trap struct-compared
quote fallthrough
syslog array constant-table
frame fallthrough label
glob array embedding
lex iota method-value
parse iota generic-function
check map
`

// tables tells whether d declares a variable whose value is written out there.
func tables(d ast.Decl) bool {
	g, ok := d.(*ast.GenDecl)
	if !ok || g.Tok != token.VAR {
		return false
	}
	for _, spec := range g.Specs {
		for _, v := range spec.(*ast.ValueSpec).Values {
			if _, ok := v.(*ast.CompositeLit); ok {
				return true
			}
		}
	}
	return false
}

// literal tells whether e is a struct's, as far as the text shows it: a type's
// name, and what it is of.
func literal(e ast.Expr) bool {
	c, ok := ast.Unparen(e).(*ast.CompositeLit)
	if !ok {
		return false
	}
	switch c.Type.(type) {
	case *ast.Ident, *ast.SelectorExpr:
		return true
	}
	return false
}

// methodValue tells whether a method that f declares is named there, and not called.
func methodValue(f *ast.File) bool {
	methods := map[string]bool{}
	for _, d := range f.Decls {
		if m, ok := d.(*ast.FuncDecl); ok && m.Recv != nil {
			methods[m.Name.Name] = true
		}
	}
	found := false
	called := map[ast.Expr]bool{}
	ast.Inspect(f, func(n ast.Node) bool {
		switch x := n.(type) {
		case *ast.CallExpr:
			called[ast.Unparen(x.Fun)] = true
		case *ast.SelectorExpr:
			found = found || methods[x.Sel.Name] && !called[x]
		}
		return true
	})
	return found
}

func waysOf(f *ast.File) map[string]bool {
	got := map[string]bool{"method-value": methodValue(f)}
	for _, d := range f.Decls {
		if tables(d) {
			got["constant-table"] = true
		}
		if f, ok := d.(*ast.FuncDecl); ok && f.Type.TypeParams != nil {
			got["generic-function"] = true
		}
	}
	ast.Inspect(f, func(n ast.Node) bool {
		switch x := n.(type) {
		case *ast.Ident:
			if x.Name == "iota" {
				got["iota"] = true
			}
		case *ast.LabeledStmt:
			got["label"] = true
		case *ast.BranchStmt:
			if x.Tok == token.FALLTHROUGH {
				got["fallthrough"] = true
			}
		case *ast.ArrayType:
			if x.Len != nil {
				got["array"] = true
			}
		case *ast.MapType:
			got["map"] = true
		case *ast.StructType:
			for _, f := range x.Fields.List {
				if len(f.Names) == 0 {
					got["embedding"] = true
				}
			}
		case *ast.SliceExpr:
			if x.Slice3 {
				got["three-index"] = true
			}
		case *ast.BinaryExpr:
			if (x.Op == token.EQL || x.Op == token.NEQ) && (literal(x.X) || literal(x.Y)) {
				got["struct-compared"] = true
			}
		}
		return true
	})
	return got
}

func TestWays(t *testing.T) {
	got := map[string]bool{}
	for _, s := range sources(t) {
		for way, has := range waysOf(s.file) {
			if has {
				got[filepath.Base(filepath.Dir(s.path))+" "+way] = true
			}
		}
	}
	for line := range strings.Lines(strings.TrimSpace(ways)) {
		words := strings.Fields(line)
		for _, way := range words[1:] {
			if !got[words[0]+" "+way] {
				t.Errorf("%s has no %s", words[0], way)
			}
		}
	}
}
