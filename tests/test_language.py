"""Tests that the package's files keep to the small part of Python that is allowed.

These see the rules that a look at the files' words can see, not all of them.
"""

import ast
import builtins
import pathlib
import re
import unittest

PACKAGE = pathlib.Path(__file__).resolve().parent.parent / "foursums"

STATEMENTS = (
    ast.FunctionDef, ast.ClassDef, ast.ImportFrom, ast.Assign, ast.AugAssign, ast.If, ast.While, ast.For,
    ast.Return, ast.Break, ast.Continue, ast.Pass, ast.Raise, ast.Try, ast.Expr,
)
EXPRESSIONS = (
    ast.Constant, ast.List, ast.Tuple, ast.Dict, ast.Set, ast.BinOp, ast.UnaryOp, ast.BoolOp, ast.Compare,
    ast.IfExp, ast.Call, ast.Attribute, ast.Subscript, ast.Slice, ast.ListComp, ast.JoinedStr,
    ast.FormattedValue, ast.Name, ast.Lambda,
)
OWN_NAMES = set(
    "len range enumerate zip min max sum abs sorted reversed int str bool list tuple dict set frozenset "
    "isinstance ord repr any all divmod Exception ValueError KeyError IndexError LookupError "
    "ZeroDivisionError ArithmeticError OverflowError RuntimeError NotImplementedError StopIteration".split()
)
WORDS_NOWHERE = set(
    "type typing typing_extensions enum Enum IntEnum StrEnum Flag IntFlag Generic Protocol ABC ABCMeta "
    "namedtuple NamedTuple TypedDict TYPE_CHECKING abstractmethod".split()
)


def sources():
    return [(path, path.read_text(encoding="utf-8")) for path in sorted(PACKAGE.rglob("*.py"))]


def nodes():
    return [(path, node) for path, text in sources() for node in ast.walk(ast.parse(text))]


class Language(unittest.TestCase):
    def test_files(self):
        there = [path for path in PACKAGE.rglob("*") if "__pycache__" not in path.parts]
        for path in there:
            self.assertTrue(path.is_dir() or path.suffix == ".py", path)
            self.assertRegex(path.stem, r"^[a-z0-9_]+$")
        self.assertIn(PACKAGE / "__init__.py", there)
        self.assertIn(PACKAGE / "fours.py", there)

    def test_signs_and_size(self):
        for path, text in sources():
            self.assertRegex(text, r"\A[ -~\n]*\Z", path)
            self.assertLessEqual(len(text.splitlines()), 400, path)
            for line in text.splitlines():
                self.assertLessEqual(len(line), 120, (path, line))
        for path, node in nodes():
            if isinstance(node, ast.FunctionDef):
                self.assertLessEqual(node.end_lineno - node.lineno + 1, 40, (path, node.name))

    def test_words_that_stand_nowhere(self):
        for path, text in sources():
            self.assertEqual(WORDS_NOWHERE & set(re.findall(r"\w+", text)), set(), path)
            self.assertNotRegex(text, "dataclass|overload|contextmanager", path)

    def test_statements_and_expressions(self):
        for path, node in nodes():
            if isinstance(node, ast.stmt):
                self.assertIsInstance(node, STATEMENTS, path)
            if isinstance(node, ast.expr):
                self.assertIsInstance(node, EXPRESSIONS, path)
            if isinstance(node, (ast.For, ast.While)):
                self.assertEqual(node.orelse, [], path)
            self.assertNotIsInstance(node, ast.Div, path)
            if isinstance(node, ast.Constant):
                self.assertIsInstance(node.value, (int, str, type(None)), path)

    def test_names(self):
        for path, node in nodes():
            if isinstance(node, ast.Name):
                self.assertRegex(node.id, r"^[A-Za-z][A-Za-z0-9_]*$", path)
                if hasattr(builtins, node.id):
                    self.assertIn(node.id, OWN_NAMES, path)
                    self.assertIsInstance(node.ctx, ast.Load, path)
            if isinstance(node, (ast.arg, ast.FunctionDef)):
                name = node.arg if isinstance(node, ast.arg) else node.name
                self.assertFalse(hasattr(builtins, name), (path, name))


if __name__ == "__main__":
    unittest.main()
